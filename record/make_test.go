package record

import (
	"bytes"
	"fmt"
	"math"
	"slices"
	"strings"

	"cadastre/api"
)

// long is a text of n bytes, each of them the same.
func long(x byte, n int) []byte { return bytes.Repeat([]byte{x}, n) }

// A cell in use, one that was killed, and one that is not in use.
func cell(data string) api.Cell { return api.Cell{Used: true, Data: []byte(data)} }
func dead(by uint32, data string) api.Cell {
	return api.Cell{Used: true, Killer: by, Data: []byte(data)}
}

var unused = api.Cell{}

// image is a page of a kind, with a Next, and its number.
func image(number uint32, kind int, cells ...api.Cell) api.Image {
	return api.Image{Page: number, To: api.Page{Kind: kind, Next: 300, Cells: cells}}
}

// full is a page of a kind whose bytes are as many as a page has at most: 18, and 494 of three cells.
func full(kind int) api.Page {
	return api.Page{Kind: kind, Cells: []api.Cell{cell(string(long('a', 180))), cell(string(long('b', 180))), cell(string(long('c', 494-18-360)))}}
}

// The records of each kind, with what it uses.
func begin(txn uint32) api.Record { return api.Record{Kind: recBegin, Txn: txn} }
func ended(kind int, txn uint32, p uint64) api.Record {
	return api.Record{Kind: kind, Txn: txn, Prev: p}
}
func did(root uint32, op api.Op) api.Record {
	return api.Record{Kind: recDo, Txn: 5, Prev: 300, Page: 7, Root: root, Op: op}
}
func undid(root uint32, op api.Op) api.Record {
	return api.Record{Kind: recUndo, Txn: 5, Prev: 300, Undo: 200, Page: 7, Root: root, Op: op}
}
func shape(images ...api.Image) api.Record { return api.Record{Kind: recShape, Images: images} }
func check(lives []api.Live, dirty []api.Dirty, next uint32) api.Record {
	return api.Record{Kind: recCheck, Lives: lives, Dirty: dirty, Next: next}
}

// The operations, of a heap's cell and of a leaf's.
func put(slot int, data string) api.Op     { return api.Op{Kind: opPut, Slot: slot, Data: []byte(data)} }
func kill(slot int, by uint32) api.Op      { return api.Op{Kind: opKill, Slot: slot, Txn: by} }
func wake(slot int) api.Op                 { return api.Op{Kind: opWake, Slot: slot} }
func free(slot int) api.Op                 { return api.Op{Kind: opFree, Slot: slot} }
func putOf(data string) api.Op             { return put(0, data) }
func killOf(data string, by uint32) api.Op { return api.Op{Kind: opKill, Txn: by, Data: []byte(data)} }
func wakeOf(data string) api.Op            { return api.Op{Kind: opWake, Data: []byte(data)} }
func freeOf(data string) api.Op            { return api.Op{Kind: opFree, Data: []byte(data)} }

// lives are n live transactions, dirties n dirty pages; from the number first on.
func lives(first uint32, n int) []api.Live {
	var l []api.Live
	for i := range n {
		l = append(l, api.Live{Txn: first + uint32(i), Last: 1000 + uint64(i), Undo: uint64(i), Lost: i%2 == 0})
	}
	return l
}

func dirties(first uint32, n int) []api.Dirty {
	var l []api.Dirty
	for i := range n {
		l = append(l, api.Dirty{Page: first + uint32(i), From: uint64(i)})
	}
	return l
}

// samples are records that may be, of each kind and of each sort within it.
func samples() []api.Record {
	return []api.Record{
		begin(1), begin(300), begin(math.MaxUint32),
		ended(recCommit, 1, 0), ended(recCommit, 200, 77), ended(recAbort, 5, 128), ended(recAbort, 127, math.MaxUint64), ended(recEnd, math.MaxUint32, 1<<62), ended(recEnd, 1, 1),
		did(0, put(0, "a")), did(0, put(59, "hello")), did(0, put(3, string(long('x', 180)))), did(0, kill(0, 5)), did(0, kill(59, math.MaxUint32)),
		did(9, putOf("a")), did(math.MaxUint32, putOf(string(long(0, 180)))), did(9, killOf("key", 5)),
		undid(0, wake(0)), undid(0, wake(59)), undid(0, free(0)), undid(0, free(59)), undid(9, wakeOf("a")), undid(9, freeOf(string(long(255, 180)))),
		shape(image(1, heapKind)), shape(image(math.MaxUint32, leafKind)), shape(image(4, innerKind)),
		shape(image(1, heapKind, cell("a"), unused, dead(300, "bc"), unused, unused, cell("d")), image(2, leafKind, cell("a"), dead(7, "b")), image(9, innerKind, cell("a\x00\x00\x00\x01"), cell("b\x00\x00\x00\x00"))),
		shape(api.Image{Page: 3, To: full(leafKind)}, api.Image{Page: 4, To: full(heapKind)}, api.Image{Page: 500, To: full(innerKind)}),
		check(nil, nil, 0), check(nil, nil, 1), check(lives(1, 1), nil, 2), check(nil, dirties(1, 1), 300), check(lives(1, 16), dirties(5, 20), math.MaxUint32), check(lives(math.MaxUint32, 1), dirties(math.MaxUint32, 1), 3),
	}
}

// change is one that is made to a record.
type change func(r *api.Record)

// changes are settings of each field, right ones and wrong ones.
func changes() []change {
	var all []change
	for _, x := range []uint32{0, 1, 5, 1 << 31, math.MaxUint32} {
		all = append(all, func(r *api.Record) { r.Txn = x }, func(r *api.Record) { r.Page = x }, func(r *api.Record) { r.Root = x }, func(r *api.Record) { r.Next = x }, func(r *api.Record) { r.Op.Txn = x })
	}
	for _, x := range []uint64{0, 1, 1 << 32, math.MaxUint64} {
		all = append(all, func(r *api.Record) { r.Prev = x }, func(r *api.Record) { r.Undo = x }, func(r *api.Record) { r.LSN = x })
	}
	for _, x := range []int{0, 1, 2, 3, 4, 5, 6, 7, 8, 9, -1, 255, 256, 257, 1<<32 + 2, math.MinInt} {
		all = append(all, func(r *api.Record) { r.Kind = x }, func(r *api.Record) { r.Op.Kind = x })
	}
	for _, x := range []int{0, 1, 59, 60, -1, 1 << 32, math.MinInt, math.MaxInt} {
		all = append(all, func(r *api.Record) { r.Op.Slot = x })
	}
	for _, n := range []int{0, 1, 180, 181} {
		all = append(all, func(r *api.Record) { r.Op.Data = long('d', n) })
	}
	for _, l := range [][]api.Image{{}, {image(1, heapKind)}, {image(0, heapKind)}, {image(2, heapKind), image(2, leafKind)}, {image(2, leafKind, unused)}} {
		all = append(all, func(r *api.Record) { r.Images = l })
	}
	for _, l := range [][]api.Live{{}, lives(1, 1), lives(0, 1), lives(math.MaxUint32, 2)} {
		all = append(all, func(r *api.Record) { r.Lives = l })
	}
	for _, l := range [][]api.Dirty{{}, dirties(1, 1), dirties(0, 1), dirties(math.MaxUint32, 2)} {
		all = append(all, func(r *api.Record) { r.Dirty = l })
	}
	return all
}

// same tells whether two records are alike; a list that is empty may be nil.
func same(r, q api.Record) bool {
	return r.Kind == q.Kind && r.LSN == q.LSN && r.Txn == q.Txn && r.Prev == q.Prev && r.Undo == q.Undo && r.Page == q.Page && r.Root == q.Root && r.Next == q.Next &&
		r.Op.Kind == q.Op.Kind && r.Op.Slot == q.Op.Slot && r.Op.Txn == q.Op.Txn && bytes.Equal(r.Op.Data, q.Op.Data) &&
		slices.EqualFunc(r.Images, q.Images, sameImage) && slices.Equal(r.Lives, q.Lives) && slices.Equal(r.Dirty, q.Dirty)
}

func sameImage(i, j api.Image) bool {
	return i.Page == j.Page && i.To.Kind == j.To.Kind && i.To.LSN == j.To.LSN && i.To.Next == j.To.Next && slices.EqualFunc(i.To.Cells, j.To.Cells, func(a, b api.Cell) bool {
		return a.Used == b.Used && a.Killer == b.Killer && bytes.Equal(a.Data, b.Data)
	})
}

// none tells whether a record is the zero value.
func none(r api.Record) bool { return same(r, api.Record{}) }

// twin is a record that is alike, and shares nothing.
func twin(r api.Record) api.Record {
	r.Op.Data = bytes.Clone(r.Op.Data)
	r.Images, r.Lives, r.Dirty = slices.Clone(r.Images), slices.Clone(r.Lives), slices.Clone(r.Dirty)
	for i := range r.Images {
		cells := slices.Clone(r.Images[i].To.Cells)
		for k := range cells {
			cells[k].Data = bytes.Clone(cells[k].Data)
		}
		r.Images[i].To.Cells = cells
	}
	return r
}

// without is a record without its LSN.
func without(r api.Record) api.Record {
	r.LSN = 0
	return r
}

// shown is a record in few words.
func shown(r api.Record) string {
	s := fmt.Sprintf("%+v", r)
	if len(s) > 400 {
		return s[:400] + strings.Repeat(".", 3)
	}
	return s
}

// picker answers numbers below n that hang on a seed.
func picker(seed int) func(n int) int {
	x := uint64(seed)*0x9E3779B97F4A7C15 + 88172645463325252
	return func(n int) int {
		x ^= x << 13
		x ^= x >> 7
		x ^= x << 17
		return int(x >> 33 % uint64(n))
	}
}

// someNumber is a number of few bits, or of many.
func someNumber(pick func(n int) int) uint64 {
	x := uint64(pick(1<<31))<<33 ^ uint64(pick(1<<31))<<11 ^ uint64(pick(1<<11))
	return x >> pick(64)
}

// someId is one of 32 bits, not 0.
func someId(pick func(n int) int) uint32 { return max(1, uint32(someNumber(pick))) }

// someData are up to 180 bytes, noughts among them.
func someData(pick func(n int) int) []byte {
	b := make([]byte, 1+pick(1+pick(180)))
	for i := range b {
		b[i] = byte(pick(4) * pick(86))
	}
	return b
}

// someIds are numbers that rise strictly.
func someIds(pick func(n int) int, n int) []uint32 {
	var ids []uint32
	for range n {
		ids = append(ids, someId(pick))
	}
	slices.Sort(ids)
	return slices.Compact(ids)
}

// somePage is a page that may be.
func somePage(pick func(n int) int) api.Page {
	for {
		p := api.Page{Kind: 1 + pick(3), Next: uint32(someNumber(pick))}
		for range pick(1 + pick(61)) {
			c := api.Cell{}
			if p.Kind != heapKind || pick(3) > 0 {
				c.Used, c.Data = true, someData(pick)
			}
			if c.Used && p.Kind != innerKind && pick(3) == 0 {
				c.Killer = someId(pick)
			}
			p.Cells = append(p.Cells, c)
		}
		if p.Kind != heapKind {
			slices.SortFunc(p.Cells, func(a, b api.Cell) int { return bytes.Compare(a.Data, b.Data) })
		}
		if rightPage(p) {
			return p
		}
	}
}

// someRecord is a record that may be.
func someRecord(pick func(n int) int) api.Record {
	r := api.Record{Kind: 1 + pick(8), LSN: someNumber(pick)}
	switch r.Kind {
	case recBegin:
		r.Txn = someId(pick)
	case recDo, recUndo:
		r.Txn, r.Prev, r.Page, r.Root = someId(pick), someNumber(pick), someId(pick), someId(pick)*uint32(pick(2))
		r.Op = someOp(pick, r)
		if r.Kind == recUndo {
			r.Undo = someNumber(pick)
		}
	case recShape:
		for _, number := range someIds(pick, 1+pick(6)) {
			r.Images = append(r.Images, api.Image{Page: number, To: somePage(pick)})
		}
	case recCommit, recAbort, recEnd:
		r.Txn, r.Prev = someId(pick), someNumber(pick)
	case recCheck:
		for _, txn := range someIds(pick, pick(17)) {
			r.Lives = append(r.Lives, api.Live{Txn: txn, Last: someNumber(pick), Undo: someNumber(pick), Lost: pick(2) > 0})
		}
		for _, number := range someIds(pick, pick(40)) {
			r.Dirty = append(r.Dirty, api.Dirty{Page: number, From: someNumber(pick)})
		}
		r.Next = uint32(someNumber(pick))
	}
	return r
}

// someOp is an operation that may stand in such a record.
func someOp(pick func(n int) int, r api.Record) api.Op {
	op := api.Op{Kind: opPut + pick(2)}
	if r.Kind == recUndo {
		op.Kind = opWake + pick(2)
	}
	if op.Kind == opKill {
		op.Txn = someId(pick)
	}
	if r.Root != 0 || op.Kind == opPut {
		op.Data = someData(pick)
	}
	if r.Root == 0 {
		op.Slot = pick(mostCells)
	}
	return op
}
