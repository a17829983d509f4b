package record

import (
	"cadastre/api"
	"cadastre/code"
)

// writeList writes how many items there are, and these.
func writeList[Item any](w *code.Writer, items []Item, write func(*code.Writer, Item)) {
	w.Uint(uint64(len(items)))
	for _, item := range items {
		write(w, item)
	}
}

// readList reads a list; with a fault fewer items than it says: it may say more than there could ever be.
func readList[Item any](from *code.Reader, read func(*code.Reader) Item) []Item {
	var items []Item
	for left := from.Uint(); left > 0 && from.Err() == api.OK; left-- {
		items = append(items, read(from))
	}
	return items
}

// isNoOp tells whether an operation is the zero value.
func isNoOp(op api.Op) bool {
	return op.Kind == 0 && op.Slot == 0 && op.Txn == 0 && len(op.Data) == 0
}

func writeOp(w *code.Writer, op api.Op) {
	w.U8(uint8(op.Kind))
	w.Uint(uint64(op.Slot))
	w.Uint(uint64(op.Txn))
	w.Text(string(op.Data))
}

func readOp(from *code.Reader) api.Op {
	op := api.Op{Kind: int(from.U8())}
	op.Slot = int(from.Uint())
	op.Txn = uint32(from.Uint())
	op.Data = []byte(from.Text(api.MaxCell))
	return op
}

func writeImage(w *code.Writer, i api.Image) {
	w.Uint(uint64(i.Page))
	w.U8(uint8(i.To.Kind))
	w.Uint(uint64(i.To.Next))
	writeList(w, i.To.Cells, writeCell)
}

func readImage(from *code.Reader) api.Image {
	i := api.Image{Page: uint32(from.Uint())}
	i.To.Kind = int(from.U8())
	i.To.Next = uint32(from.Uint())
	i.To.Cells = readList(from, readCell)
	return i
}

// writeCell writes a cell; of one that is not in use just that it has no bytes.
func writeCell(w *code.Writer, c api.Cell) {
	w.Uint(uint64(len(c.Data)))
	if c.Used {
		w.Uint(uint64(c.Killer))
		w.Raw(c.Data)
	}
}

func readCell(from *code.Reader) api.Cell {
	length := from.Uint()
	if length == 0 {
		return api.Cell{}
	}
	c := api.Cell{Used: true, Killer: uint32(from.Uint())}
	c.Data = from.Raw(int(length))
	return c
}

func writeLive(w *code.Writer, l api.Live) {
	w.Uint(uint64(l.Txn))
	w.Uint(l.Last)
	w.Uint(l.Undo)
	lost := uint8(0)
	if l.Lost {
		lost = 1
	}
	w.U8(lost)
}

func readLive(from *code.Reader) api.Live {
	l := api.Live{Txn: uint32(from.Uint())}
	l.Last = from.Uint()
	l.Undo = from.Uint()
	l.Lost = from.U8() == 1
	return l
}

func writeDirty(w *code.Writer, d api.Dirty) {
	w.Uint(uint64(d.Page))
	w.Uint(d.From)
}

func readDirty(from *code.Reader) api.Dirty {
	d := api.Dirty{Page: uint32(from.Uint())}
	d.From = from.Uint()
	return d
}
