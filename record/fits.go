package record

import (
	"cadastre/api"
	"cadastre/page"
)

// fits tells whether a record has a kind, and what this uses is as it asks.
func fits(r api.Record) bool {
	switch r.Kind {
	case api.RecDo, api.RecUndo:
		if r.Page == 0 || !fitsOp(r) {
			return false
		}
		fallthrough
	case api.RecBegin, api.RecCommit, api.RecAbort, api.RecEnd:
		return r.Txn != 0
	case api.RecShape:
		return len(r.Images) > 0 && rise(r.Images, func(i api.Image) uint32 { return i.Page }) && areFresh(r.Images)
	case api.RecCheck:
		return rise(r.Lives, func(l api.Live) uint32 { return l.Txn }) && rise(r.Dirty, func(d api.Dirty) uint32 { return d.Page })
	}
	return false
}

// fitsOp tells whether the operation of a RecDo or of a RecUndo is as its kind asks.
func fitsOp(r api.Record) bool {
	undoes := r.Op.Kind == api.OpWake || r.Op.Kind == api.OpFree
	if undoes != (r.Kind == api.RecUndo) || !page.Right(pageKind(r.Root), r.Op) {
		return false
	}
	// What is right for a heap may have any Slot, also one that no page has.
	return r.Op.Slot >= 0 && r.Op.Slot < api.MaxCells
}

// pageKind tells on which kind of pages something is done, by the root of its tree.
func pageKind(root uint32) int {
	if root == 0 {
		return api.PageHeap
	}
	return api.PageLeaf
}

// rise tells whether the numbers of a list's items rise strictly, and none is 0.
func rise[Item any](list []Item, number func(Item) uint32) bool {
	last := uint32(0)
	for _, item := range list {
		if number(item) <= last {
			return false
		}
		last = number(item)
	}
	return true
}

// areFresh tells whether each image's page may be, and no record has changed it yet.
func areFresh(images []api.Image) bool {
	for _, i := range images {
		if i.To.LSN != 0 || !page.May(i.To) {
			return false
		}
	}
	return true
}
