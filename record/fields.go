package record

import (
	"cadastre/api"
	"cadastre/code"
)

// uses are the fields that a kind uses.
type uses struct{ txn, prev, undo, page, root, op, images, lives, dirty, next bool }

// usedBy tells what a kind uses: a Do uses more than a Commit does, and an Undo more than a Do.
func usedBy(kind int) uses {
	var u uses
	switch kind {
	case api.RecUndo:
		u.undo = true
		fallthrough
	case api.RecDo:
		u.page, u.root, u.op = true, true, true
		fallthrough
	case api.RecCommit, api.RecAbort, api.RecEnd:
		u.prev = true
		fallthrough
	case api.RecBegin:
		u.txn = true
	case api.RecShape:
		u.images = true
	case api.RecCheck:
		u.lives, u.dirty, u.next = true, true, true
	}
	return u
}

// field is a field of a record: whether its kind uses it, whether it is zero, and how it is written and read.
type field struct {
	used  bool
	zero  bool
	write func(w *code.Writer)
	read  func(from *code.Reader)
}

// fieldsOf tells all fields of a record, beside its kind and its LSN, in the order in which they are written.
func fieldsOf(r *api.Record) []field {
	u := usedBy(r.Kind)
	return []field{
		number(u.txn, uint64(r.Txn), func(x uint64) { r.Txn = uint32(x) }),
		number(u.prev, r.Prev, func(x uint64) { r.Prev = x }),
		number(u.undo, r.Undo, func(x uint64) { r.Undo = x }),
		number(u.page, uint64(r.Page), func(x uint64) { r.Page = uint32(x) }),
		number(u.root, uint64(r.Root), func(x uint64) { r.Root = uint32(x) }),
		{
			used:  u.op,
			zero:  isNoOp(r.Op),
			write: func(w *code.Writer) { writeOp(w, r.Op) },
			read:  func(from *code.Reader) { r.Op = readOp(from) },
		},
		list(u.images, r.Images, writeImage, readImage, func(l []api.Image) { r.Images = l }),
		list(u.lives, r.Lives, writeLive, readLive, func(l []api.Live) { r.Lives = l }),
		list(u.dirty, r.Dirty, writeDirty, readDirty, func(l []api.Dirty) { r.Dirty = l }),
		number(u.next, uint64(r.Next), func(x uint64) { r.Next = uint32(x) }),
	}
}

// number makes a field that is a counted number.
func number(used bool, x uint64, set func(uint64)) field {
	return field{
		used:  used,
		zero:  x == 0,
		write: func(w *code.Writer) { w.Uint(x) },
		read:  func(from *code.Reader) { set(from.Uint()) },
	}
}

// list makes a field that is a list, whose items are written and read by a function each.
func list[Item any](used bool, items []Item, write func(*code.Writer, Item), read func(*code.Reader) Item, set func([]Item)) field {
	return field{
		used:  used,
		zero:  len(items) == 0,
		write: func(w *code.Writer) { writeList(w, items, write) },
		read:  func(from *code.Reader) { set(readList(from, read)) },
	}
}
