package chain

import (
	"maps"
	"math"
	"slices"

	"cadastre/api"
	"cadastre/record"
)

// right tells whether each record may be, and their LSNs rise strictly, none 0.
func right(records []api.Record) bool {
	last := uint64(0)
	for _, r := range records {
		if r.LSN <= last || !record.May(r) {
			return false
		}
		last = r.LSN
	}
	return true
}

// story is what records that were heard so far tell.
type story struct {
	lives map[uint32]api.Live // by their numbers
	dirty map[uint32]uint64   // of each page from which record on
	next  uint32
}

// begin tells what is known ahead of all records, or at the checkpoint that is said, and the records behind that;
// false: there is no such checkpoint.
func begin(records []api.Record, check uint64) (*story, []api.Record, bool) {
	s := &story{lives: map[uint32]api.Live{}, dirty: map[uint32]uint64{}, next: 1}
	if check == 0 {
		return s, records, true
	}
	for place, r := range records {
		if r.LSN == check && r.Kind == api.RecCheck {
			s.recall(r)
			return s, records[place+1:], true
		}
	}
	return nil, nil, false
}

// recall takes over what stands in a checkpoint.
func (s *story) recall(check api.Record) {
	for _, l := range check.Lives {
		s.lives[l.Txn] = l
	}
	for _, d := range check.Dirty {
		s.dirty[d.Page] = d.From
	}
	s.next = max(s.next, check.Next)
}

// hear goes on by a record; false: it can't stand there.
func (s *story) hear(r api.Record) bool {
	switch r.Kind {
	case api.RecBegin:
		return s.begun(r)
	case api.RecDo, api.RecUndo, api.RecCommit, api.RecAbort:
		return s.acted(r)
	case api.RecEnd:
		return s.ended(r)
	case api.RecShape:
		for _, image := range r.Images {
			s.soil(image.Page, r.LSN)
		}
	}
	return true
}

// begun hears that a transaction began.
func (s *story) begun(r api.Record) bool {
	if _, there := s.lives[r.Txn]; there {
		return false
	}
	s.lives[r.Txn] = api.Live{Txn: r.Txn, Last: r.LSN, Lost: true}
	// The greatest number has none behind it.
	s.next = max(s.next, min(r.Txn, math.MaxUint32-1)+1)
	return true
}

// acted hears what a transaction did that has not been committed.
func (s *story) acted(r api.Record) bool {
	l, there := s.lives[r.Txn]
	if !there || !l.Lost || r.Prev != l.Last {
		return false
	}
	l.Last = r.LSN
	switch r.Kind {
	case api.RecDo:
		l.Undo = r.LSN
		s.soil(r.Page, r.LSN)
	case api.RecUndo:
		if r.Undo >= l.Undo {
			return false
		}
		l.Undo = r.Undo
		s.soil(r.Page, r.LSN)
	case api.RecCommit:
		l.Undo, l.Lost = 0, false
	}
	s.lives[r.Txn] = l
	return true
}

// ended hears that a transaction has ended.
func (s *story) ended(r api.Record) bool {
	l, there := s.lives[r.Txn]
	if !there || r.Prev != l.Last || l.Undo != 0 {
		return false
	}
	delete(s.lives, r.Txn)
	return true
}

// soil makes a page dirty from a record on, unless it is dirty already.
func (s *story) soil(page uint32, lsn uint64) {
	if _, there := s.dirty[page]; !there {
		s.dirty[page] = lsn
	}
}

// livesByTxn tells the live transactions, their numbers rising.
func (s *story) livesByTxn() []api.Live {
	var all []api.Live
	for _, txn := range slices.Sorted(maps.Keys(s.lives)) {
		all = append(all, s.lives[txn])
	}
	return all
}

// dirtyByPage tells the dirty pages, their numbers rising.
func (s *story) dirtyByPage() []api.Dirty {
	var all []api.Dirty
	for _, number := range slices.Sorted(maps.Keys(s.dirty)) {
		all = append(all, api.Dirty{Page: number, From: s.dirty[number]})
	}
	return all
}
