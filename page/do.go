package page

import (
	"bytes"
	"slices"
	"sort"

	"cadastre/api"
)

// Right tells whether an operation is right for a kind of pages.
func Right(kind int, op api.Op) bool {
	if !takesOps(kind) || op.Kind < api.OpPut || op.Kind > api.OpFree {
		return false
	}
	if (op.Txn != 0) != (op.Kind == api.OpKill) {
		return false
	}
	if kind == api.PageLeaf {
		return op.Slot == 0 && mayData(op.Data)
	}
	if op.Kind == api.OpPut {
		return mayData(op.Data)
	}
	return len(op.Data) == 0
}

// Undo tells what undoes one.
func Undo(kind int, op api.Op) (api.Op, api.Errno) {
	if !Right(kind, op) {
		return api.Op{}, api.ErrArg
	}
	undoes := api.Op{Slot: op.Slot}
	switch op.Kind {
	case api.OpPut:
		undoes.Kind = api.OpFree
	case api.OpKill:
		undoes.Kind = api.OpWake
	default:
		return api.Op{}, api.ErrArg
	}
	// A heap's Put has the bytes that its Free must not have.
	if kind == api.PageLeaf {
		undoes.Data = bytes.Clone(op.Data)
	}
	return undoes, api.OK
}

// Do does an operation.
func Do(p api.Page, op api.Op) (api.Page, api.Errno) {
	if !May(p) {
		return api.Page{}, api.ErrForm
	}
	if !Right(p.Kind, op) {
		return api.Page{}, api.ErrArg
	}
	done := copied(p)
	if e := do(&done, op); e != api.OK {
		return api.Page{}, e
	}
	return done, api.OK
}

// copied makes a page that shares nothing with another one.
func copied(p api.Page) api.Page {
	p.Cells = slices.Clone(p.Cells)
	for i := range p.Cells {
		p.Cells[i].Data = bytes.Clone(p.Cells[i].Data)
	}
	return p
}

// do does an operation that is right for a page, in the page; with an error the page may be spoilt.
func do(p *api.Page, op api.Op) api.Errno {
	at, there := find(*p, op)
	switch op.Kind {
	case api.OpPut:
		return put(p, at, there, op.Data)
	case api.OpKill:
		return kill(p, at, there, op.Txn)
	case api.OpWake:
		return wake(p, at, there)
	}
	return free(p, at, there)
}

// find tells the place of the cell that is meant, and whether it is there, in use. Of a heap the place is what was said,
// wherever that is; of a leaf the one where the cell stands, or would stand.
func find(p api.Page, op api.Op) (int, bool) {
	if p.Kind == api.PageHeap {
		return op.Slot, op.Slot >= 0 && op.Slot < len(p.Cells) && p.Cells[op.Slot].Used
	}
	at := sort.Search(len(p.Cells), func(i int) bool { return bytes.Compare(p.Cells[i].Data, op.Data) >= 0 })
	return at, at < len(p.Cells) && bytes.Equal(p.Cells[at].Data, op.Data)
}

func put(p *api.Page, at int, there bool, data []byte) api.Errno {
	switch {
	case at < 0 || at > len(p.Cells):
		return api.ErrRange
	case there:
		return api.ErrThere
	}
	c := api.Cell{Used: true, Data: bytes.Clone(data)}
	if p.Kind == api.PageHeap && at < len(p.Cells) {
		p.Cells[at] = c
	} else {
		p.Cells = slices.Insert(p.Cells, at, c)
	}
	if len(p.Cells) > api.MaxCells || Size(*p) > api.PageSize {
		return api.ErrFull
	}
	return api.OK
}

func kill(p *api.Page, at int, there bool, txn uint32) api.Errno {
	switch {
	case !there:
		return api.ErrNone
	case p.Cells[at].Killer != 0:
		return api.ErrThere
	}
	p.Cells[at].Killer = txn
	return api.OK
}

func wake(p *api.Page, at int, there bool) api.Errno {
	if !there || p.Cells[at].Killer == 0 {
		return api.ErrNone
	}
	p.Cells[at].Killer = 0
	return api.OK
}

func free(p *api.Page, at int, there bool) api.Errno {
	if !there {
		return api.ErrNone
	}
	if p.Kind == api.PageLeaf {
		p.Cells = slices.Delete(p.Cells, at, at+1)
		return api.OK
	}
	p.Cells[at] = api.Cell{}
	for len(p.Cells) > 0 && !p.Cells[len(p.Cells)-1].Used {
		p.Cells = p.Cells[:len(p.Cells)-1]
	}
	return api.OK
}
