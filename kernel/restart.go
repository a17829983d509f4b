package kernel

import (
	"maps"
	"slices"

	"cadastre/api"
	"cadastre/chain"
	"cadastre/disk"
	"cadastre/pool"
	"cadastre/wal"
)

// Format makes an empty one.
func Format(d *disk.Disk, n int) api.Errno {
	// The master and one page are to find room beside the log.
	if n < api.MinLog || n > d.Sectors()-2 {
		return api.ErrArg
	}
	for at := n + 1; at < d.Sectors(); at++ {
		if e := d.Write(at, make([]byte, api.PageSize)); e != api.OK {
			return e
		}
	}
	return wal.Format(d, n)
}

// Open restarts: redo, undo, a checkpoint.
func Open(d *disk.Disk, frames int) (*Kernel, api.Errno) {
	if d == nil || frames < api.MinFrames || frames > api.MaxFrames {
		return nil, api.ErrArg
	}
	k, records, e := begin(d, frames)
	if e != api.OK {
		return nil, e
	}
	lives, dirty, next, e := chain.Analyse(records, k.log.Check())
	if e != api.OK {
		return nil, e
	}
	k.next = max(1, k.log.Kept(), next)
	if e := k.redo(records, dirty); e != api.OK {
		return nil, e
	}
	if e := k.revive(records, lives); e != api.OK {
		return nil, e
	}
	if e := k.undoLost(); e != api.OK {
		return nil, e
	}
	if e := k.check(); e != api.OK {
		return nil, e
	}
	return k, api.OK
}

// begin makes a kernel on a disk's log and pages, as the cut left them; and the log's records.
func begin(d *disk.Disk, frames int) (*Kernel, []api.Record, api.Errno) {
	log, records, e := wal.Open(d)
	if e != api.OK {
		return nil, nil, e
	}
	pages, e := pool.New(d, log, frames)
	if e != api.OK {
		return nil, nil, e
	}
	k := &Kernel{log: log, pool: pages, lives: map[uint32]*live{}, used: make([]bool, pages.Pages()+1)}
	return k, records, api.OK
}

// redo repeats what may not have come to the disk.
func (k *Kernel) redo(records []api.Record, dirty []api.Dirty) api.Errno {
	if len(dirty) == 0 {
		return api.OK
	}
	from := chain.From(dirty)
	before, e := k.images(named(records, dirty, from))
	if e != api.OK {
		return e
	}
	after, e := chain.Redo(before, records, from)
	if e != api.OK {
		return api.ErrForm
	}
	var changed []api.Image
	for i, image := range after {
		if image.To.LSN != before[i].To.LSN {
			changed = append(changed, image)
		}
	}
	return k.put(changed)
}

// named tells which pages are dirty, or are named by the records from an LSN on; their numbers rise.
func named(records []api.Record, dirty []api.Dirty, from uint64) []uint32 {
	pages := map[uint32]struct{}{}
	for _, d := range dirty {
		pages[d.Page] = struct{}{}
	}
	for _, r := range records {
		if r.LSN < from {
			continue
		}
		switch r.Kind {
		case api.RecDo, api.RecUndo:
			pages[r.Page] = struct{}{}
		case api.RecShape:
			for _, image := range r.Images {
				pages[image.Page] = struct{}{}
			}
		}
	}
	return slices.Sorted(maps.Keys(pages))
}

// images tells pages by their numbers.
func (k *Kernel) images(numbers []uint32) ([]api.Image, api.Errno) {
	var all []api.Image
	for _, number := range numbers {
		if !k.has(number) {
			return nil, api.ErrForm
		}
		p, e := k.pool.Get(number)
		if e != api.OK {
			return nil, e
		}
		all = append(all, api.Image{Page: number, To: p})
	}
	return all, api.OK
}

// revive lets the lost transactions be live, with what of each may be undone.
func (k *Kernel) revive(records []api.Record, lives []api.Live) api.Errno {
	acts := actsOf(records, k.log.Check())
	for _, l := range lives {
		if !l.Lost {
			continue
		}
		t, right := revived(acts, l)
		if !right {
			return api.ErrForm
		}
		k.lives[l.Txn] = t
	}
	return api.OK
}

// act is what a RecDo tells, and the LSN of what is to be undone next once that is.
type act struct {
	record api.Record
	next   uint64
}

// actsOf tells, by their LSNs, what the RecDos tell. What was to be undone ahead of each, the records ahead of it say; or the checkpoint from which the restart begins.
func actsOf(records []api.Record, check uint64) map[uint64]act {
	acts := map[uint64]act{}
	undo := map[uint32]uint64{}
	for _, r := range records {
		switch r.Kind {
		case api.RecBegin:
			undo[r.Txn] = 0
		case api.RecDo:
			acts[r.LSN] = act{r, undo[r.Txn]}
			undo[r.Txn] = r.LSN
		case api.RecUndo:
			undo[r.Txn] = r.Undo
		case api.RecCheck:
			if r.LSN != check {
				continue
			}
			for _, l := range r.Lives {
				undo[l.Txn] = l.Undo
			}
		}
	}
	return acts
}

// revived tells a lost transaction as it was ahead of the cut; false: what is to be undone of it is no row of its own operations, one behind the other.
func revived(acts map[uint64]act, l api.Live) (*live, bool) {
	var did []api.Record
	for lsn := l.Undo; lsn != 0; {
		a, there := acts[lsn]
		if !there || a.record.Txn != l.Txn || a.next >= lsn {
			return nil, false
		}
		did = append(did, a.record)
		lsn = a.next
	}
	t := &live{txn: l.Txn, last: l.Last}
	for _, r := range slices.Backward(did) {
		t.did(r)
	}
	return t, true
}

// undoLost undoes, one by one, what the lost transactions did, and ends them.
func (k *Kernel) undoLost() api.Errno {
	for {
		lives := k.told()
		place := chain.Next(lives)
		if place < 0 {
			return api.OK
		}
		if e := k.undoNext(k.lives[lives[place].Txn]); e != api.OK {
			return e
		}
	}
}

// undoNext takes back what a transaction did last, or ends it, where nothing is left.
func (k *Kernel) undoNext(t *live) api.Errno {
	if len(t.deeds) == 0 {
		return k.end(t)
	}
	return k.back(t, len(t.deeds)-1)
}
