package record

import (
	"bytes"
	"encoding/binary"

	"cadastre/api"
)

// The chapter's words written anew: which records may be, their bytes, and which bytes are a record's.

// The numbers that the document names, written out, so that nothing of the program is in what the tests want.
const (
	recBegin, recDo, recUndo, recShape     = 1, 2, 3, 4
	recCommit, recAbort, recEnd, recCheck  = 5, 6, 7, 8
	opPut, opKill, opWake, opFree          = 1, 2, 3, 4
	heapKind, leafKind, innerKind          = 1, 2, 3
	mostCells, mostCell, mostBytes, aLeast = 60, 180, 16384, 3
)

// rightOp tells whether an operation may stand in a record of a kind, by chapter 7 and this one.
func rightOp(kind int, root uint32, op api.Op) bool {
	if op.Slot < 0 || op.Slot >= mostCells || root != 0 && op.Slot != 0 {
		return false
	}
	long := len(op.Data) >= 1 && len(op.Data) <= mostCell
	if root == 0 && op.Kind != opPut {
		long = len(op.Data) == 0
	}
	switch op.Kind {
	case opPut:
		return long && kind == recDo && op.Txn == 0
	case opKill:
		return long && kind == recDo && op.Txn != 0
	case opWake, opFree:
		return long && kind == recUndo && op.Txn == 0
	}
	return false
}

// rightPage tells whether a page may be, by chapter 7.
func rightPage(p api.Page) bool {
	whole := 18
	for i, c := range p.Cells {
		if !c.Used && (c.Killer != 0 || len(c.Data) > 0 || p.Kind != heapKind || i == len(p.Cells)-1) {
			return false
		}
		if c.Used && (len(c.Data) < 1 || len(c.Data) > mostCell) {
			return false
		}
		whole += 2 + len(c.Data)
		if c.Used {
			whole += 4
		}
	}
	if len(p.Cells) > mostCells || whole > 512 || p.Kind < heapKind || p.Kind > innerKind {
		return false
	}
	last := ""
	for i, c := range p.Cells {
		entry := string(c.Data)
		if p.Kind == innerKind {
			if c.Killer != 0 || len(entry) < 5 {
				return false
			}
			entry = entry[:len(entry)-4]
		}
		if p.Kind != heapKind && i > 0 && last >= entry {
			return false
		}
		last = entry
	}
	return true
}

// rising tells whether numbers rise strictly, and none is 0.
func rising(numbers []uint32) bool {
	for i, n := range numbers {
		if n == 0 || i > 0 && numbers[i-1] >= n {
			return false
		}
	}
	return true
}

// right tells whether a record may be, but for how many bytes it has.
func right(r api.Record) bool {
	noOp := r.Op.Kind == 0 && r.Op.Slot == 0 && r.Op.Txn == 0 && len(r.Op.Data) == 0
	noChain := r.Txn == 0 && r.Prev == 0
	noDeed := r.Page == 0 && r.Root == 0 && noOp
	noCheck := len(r.Lives) == 0 && len(r.Dirty) == 0 && r.Next == 0
	noImages := len(r.Images) == 0
	switch r.Kind {
	case recBegin:
		return r.Txn != 0 && r.Prev == 0 && r.Undo == 0 && noDeed && noImages && noCheck
	case recDo:
		return r.Txn != 0 && r.Undo == 0 && r.Page != 0 && rightOp(recDo, r.Root, r.Op) && noImages && noCheck
	case recUndo:
		return r.Txn != 0 && r.Page != 0 && rightOp(recUndo, r.Root, r.Op) && noImages && noCheck
	case recShape:
		var numbers []uint32
		for _, i := range r.Images {
			numbers = append(numbers, i.Page)
			if i.To.LSN != 0 || !rightPage(i.To) {
				return false
			}
		}
		return noChain && r.Undo == 0 && noDeed && !noImages && rising(numbers) && noCheck
	case recCommit, recAbort, recEnd:
		return r.Txn != 0 && r.Undo == 0 && noDeed && noImages && noCheck
	case recCheck:
		var txns, pages []uint32
		for _, l := range r.Lives {
			txns = append(txns, l.Txn)
		}
		for _, d := range r.Dirty {
			pages = append(pages, d.Page)
		}
		return noChain && r.Undo == 0 && noDeed && noImages && rising(txns) && rising(pages)
	}
	return false
}

// uvarints are counted numbers, one behind the other.
func uvarints(b []byte, numbers ...uint64) []byte {
	for _, n := range numbers {
		b = binary.AppendUvarint(b, n)
	}
	return b
}

// textOf are a record's bytes, whether it may be or not: none, if it may not be as to what its kind asks, or has too many.
func textOf(r api.Record) []byte {
	if !right(r) {
		return nil
	}
	b := rawBytes(r)
	if len(b) > mostBytes {
		return nil
	}
	return b
}

// rawBytes are the bytes of a record of any length, with what its kind uses, whatever stands there.
func rawBytes(r api.Record) []byte {
	b := []byte{0, 0, byte(r.Kind)}
	switch r.Kind {
	case recBegin:
		b = uvarints(b, uint64(r.Txn))
	case recDo:
		b = uvarints(b, uint64(r.Txn), r.Prev, uint64(r.Page), uint64(r.Root))
		b = rawOp(b, r.Op)
	case recUndo:
		b = uvarints(b, uint64(r.Txn), r.Prev, r.Undo, uint64(r.Page), uint64(r.Root))
		b = rawOp(b, r.Op)
	case recShape:
		b = uvarints(b, uint64(len(r.Images)))
		for _, i := range r.Images {
			b = rawImage(b, i)
		}
	case recCommit, recAbort, recEnd:
		b = uvarints(b, uint64(r.Txn), r.Prev)
	case recCheck:
		b = uvarints(b, uint64(len(r.Lives)))
		for _, l := range r.Lives {
			b = uvarints(b, uint64(l.Txn), l.Last, l.Undo)
			b = append(b, map[bool]byte{false: 0, true: 1}[l.Lost])
		}
		b = uvarints(b, uint64(len(r.Dirty)))
		for _, d := range r.Dirty {
			b = uvarints(b, uint64(d.Page), d.From)
		}
		b = uvarints(b, uint64(r.Next))
	}
	return withLength(b)
}

// withLength puts how many bytes there are into the first two.
func withLength(b []byte) []byte {
	binary.LittleEndian.PutUint16(b, uint16(len(b)))
	return b
}

func rawOp(b []byte, op api.Op) []byte {
	b = append(b, byte(op.Kind))
	b = uvarints(b, uint64(op.Slot), uint64(op.Txn), uint64(len(op.Data)))
	return append(b, op.Data...)
}

func rawImage(b []byte, i api.Image) []byte {
	b = append(uvarints(b, uint64(i.Page)), byte(i.To.Kind))
	b = uvarints(b, uint64(i.To.Next), uint64(len(i.To.Cells)))
	for _, c := range i.To.Cells {
		b = uvarints(b, uint64(len(c.Data)))
		if c.Used {
			b = append(uvarints(b, uint64(c.Killer)), c.Data...)
		}
	}
	return b
}

// taker takes parts from the front of bytes; bad, once one of them was not there in its one form.
type taker struct {
	b   []byte
	bad bool
}

// number takes a counted number that is not above most.
func (t *taker) number(most uint64) uint64 {
	x, n := binary.Uvarint(t.b)
	if t.bad || n <= 0 || n > 1 && t.b[n-1] == 0 || x > most {
		t.bad = true
		return 0
	}
	t.b = t.b[n:]
	return x
}

func (t *taker) wide() uint64 { return t.number(1<<64 - 1) }
func (t *taker) id() uint32   { return uint32(t.number(1<<32 - 1)) }

// taken takes n bytes.
func (t *taker) taken(n uint64) []byte {
	if t.bad || n > uint64(len(t.b)) {
		t.bad = true
		return nil
	}
	taken := t.b[:n:n]
	t.b = t.b[n:]
	return taken
}

// one takes a byte.
func (t *taker) one() int {
	if b := t.taken(1); len(b) == 1 {
		return int(b[0])
	}
	return 0
}

func (t *taker) op() api.Op {
	op := api.Op{Kind: t.one(), Slot: int(t.number(1 << 30)), Txn: t.id()}
	op.Data = t.taken(t.wide())
	return op
}

func (t *taker) image() api.Image {
	i := api.Image{Page: t.id(), To: api.Page{Kind: t.one(), Next: t.id()}}
	for range t.count() {
		n := t.wide()
		if n == 0 {
			i.To.Cells = append(i.To.Cells, api.Cell{})
			continue
		}
		i.To.Cells = append(i.To.Cells, api.Cell{Used: true, Killer: t.id(), Data: t.taken(n)})
	}
	return i
}

// count takes how many parts there are to come: as many as there are bytes, at most.
func (t *taker) count() int { return int(t.number(uint64(len(t.b)))) }

// recordOf is the record whose bytes these are, all of them: false, if they are none's.
func recordOf(b []byte) (api.Record, bool) {
	if len(b) < aLeast || len(b) > mostBytes || int(binary.LittleEndian.Uint16(b)) != len(b) {
		return api.Record{}, false
	}
	t := &taker{b: b[2:]}
	r := api.Record{Kind: t.one()}
	switch r.Kind {
	case recBegin:
		r.Txn = t.id()
	case recDo:
		r.Txn, r.Prev, r.Page, r.Root = t.id(), t.wide(), t.id(), t.id()
		r.Op = t.op()
	case recUndo:
		r.Txn, r.Prev, r.Undo, r.Page, r.Root = t.id(), t.wide(), t.wide(), t.id(), t.id()
		r.Op = t.op()
	case recShape:
		for range t.count() {
			r.Images = append(r.Images, t.image())
		}
	case recCommit, recAbort, recEnd:
		r.Txn, r.Prev = t.id(), t.wide()
	case recCheck:
		for range t.count() {
			l := api.Live{Txn: t.id(), Last: t.wide(), Undo: t.wide()}
			lost := t.number(1)
			l.Lost = lost == 1
			r.Lives = append(r.Lives, l)
		}
		for range t.count() {
			r.Dirty = append(r.Dirty, api.Dirty{Page: t.id(), From: t.wide()})
		}
		r.Next = t.id()
	}
	if t.bad || len(t.b) > 0 || !right(r) {
		return api.Record{}, false
	}
	return r, true
}

// decoded is what Decode is to answer of bytes.
func decoded(b []byte) (api.Record, int, api.Errno) {
	if len(b) < 2 {
		return api.Record{}, 0, api.ErrNone
	}
	n := int(b[0]) + 256*int(b[1])
	switch {
	case n < aLeast || n > mostBytes:
		return api.Record{}, 0, api.ErrForm
	case len(b) < n:
		return api.Record{}, 0, api.ErrNone
	}
	r, ok := recordOf(bytes.Clone(b[:n]))
	if !ok {
		return api.Record{}, 0, api.ErrForm
	}
	return r, n, api.OK
}
