package kernel

import (
	"bytes"
	"cmp"
	"slices"

	"cadastre/api"
	"cadastre/record"
)

// What is kept of the log's Room for the end: of a live transaction, and of an operation that may be undone, beside its Data.
const (
	endBytes  = 40
	undoBytes = 48
)

// deed is an operation that may be undone.
type deed struct {
	lsn  uint64
	page uint32
	root uint32
	op   api.Op
	kept int // what is kept of the log's Room for it, and for those ahead of it
}

// live is a live transaction.
type live struct {
	txn   uint32
	last  uint64 // its last record
	deeds []deed // the first one first
}

// keptFor tells what is kept of the log's Room for an operation.
func keptFor(op api.Op) int { return undoBytes + len(op.Data) }

// kept tells what is kept of the log's Room for all that may be undone.
func (t *live) kept() int {
	if len(t.deeds) == 0 {
		return 0
	}
	return t.deeds[len(t.deeds)-1].kept
}

// did takes up what a RecDo says.
func (t *live) did(r api.Record) {
	op := r.Op
	op.Data = bytes.Clone(op.Data)
	t.deeds = append(t.deeds, deed{lsn: r.LSN, page: r.Page, root: r.Root, op: op, kept: t.kept() + keptFor(op)})
}

// undo tells the LSN of what is to be undone next, when so many of the operations are left; 0, if none is.
func (t *live) undo(left int) uint64 {
	if left == 0 {
		return 0
	}
	return t.deeds[left-1].lsn
}

// point tells the LSN of the last operation that may be undone.
func (t *live) point() uint64 { return t.undo(len(t.deeds)) }

// upTo tells how many operations there were at a point; false: there was no such point.
func (t *live) upTo(point uint64) (int, bool) {
	if point == 0 {
		return 0, true
	}
	place, there := slices.BinarySearchFunc(t.deeds, point, func(d deed, lsn uint64) int { return cmp.Compare(d.lsn, lsn) })
	return place + 1, there
}

// find tells a live transaction.
func (k *Kernel) find(txn uint32) (*live, api.Errno) {
	if k.isDark() {
		return nil, api.ErrDark
	}
	t, there := k.lives[txn]
	if !there {
		return nil, api.ErrTxn
	}
	return t, api.OK
}

// kept tells what is kept of the log's Room for the end of all live transactions.
func (k *Kernel) kept() int {
	all := 0
	for _, t := range k.lives {
		all += endBytes + t.kept()
	}
	return all
}

// told tells the live transactions as a checkpoint has them.
func (k *Kernel) told() []api.Live {
	var all []api.Live
	for _, txn := range k.Lives() {
		t := k.lives[txn]
		all = append(all, api.Live{Txn: txn, Last: t.last, Undo: t.point(), Lost: true})
	}
	return all
}

// append appends a record, if so many bytes of the log's Room stay behind it.
func (k *Kernel) append(r api.Record, stay int) (uint64, api.Errno) {
	if record.Size(r)+stay > k.log.Room() {
		return 0, api.ErrFull
	}
	return k.log.Append(r)
}

// appendOf appends a record of a transaction.
func (k *Kernel) appendOf(t *live, r api.Record, stay int) (uint64, api.Errno) {
	r.Txn, r.Prev = t.txn, t.last
	lsn, e := k.append(r, stay)
	if e == api.OK {
		t.last = lsn
	}
	return lsn, e
}
