package page

import (
	"math"
	"slices"
	"strings"
	"testing"

	"cadastre/api"
)

// The operations, by a heap's slot and by a leaf's bytes.
func putAt(slot int, data string) api.Op {
	return api.Op{Kind: opPut, Slot: slot, Data: []byte(data)}
}
func killAt(slot int, by uint32) api.Op    { return api.Op{Kind: opKill, Slot: slot, Txn: by} }
func wakeAt(slot int) api.Op               { return api.Op{Kind: opWake, Slot: slot} }
func freeAt(slot int) api.Op               { return api.Op{Kind: opFree, Slot: slot} }
func putOf(data string) api.Op             { return api.Op{Kind: opPut, Data: []byte(data)} }
func killOf(data string, by uint32) api.Op { return api.Op{Kind: opKill, Data: []byte(data), Txn: by} }
func wakeOf(data string) api.Op            { return api.Op{Kind: opWake, Data: []byte(data)} }
func freeOf(data string) api.Op            { return api.Op{Kind: opFree, Data: []byte(data)} }

func sameOp(a, b api.Op) bool {
	return a.Kind == b.Kind && a.Slot == b.Slot && a.Txn == b.Txn && string(a.Data) == string(b.Data)
}

// rightOp tells whether an operation is right for a kind, by the chapter's words alone.
func rightOp(kind int, op api.Op) bool {
	data := len(op.Data) >= 1 && len(op.Data) <= 180
	if kind == heapKind && op.Kind != opPut {
		data = len(op.Data) == 0
	}
	if kind != heapKind && (kind != leafKind || op.Slot != 0) {
		return false
	}
	switch op.Kind {
	case opPut, opWake, opFree:
		return data && op.Txn == 0
	case opKill:
		return data && op.Txn != 0
	}
	return false
}

// does asks what Do answers: a page.
func does(t *testing.T, p api.Page, op api.Op, want api.Page) api.Page {
	t.Helper()
	got, e := Do(p, op)
	if e != api.OK || !same(got, want) {
		t.Fatalf("Do(%s, %+v): %s, %d, want %s", shown(p), op, shown(got), int(e), shown(want))
	}
	return got
}

// fails asks what Do answers: an error, and nothing beside it.
func fails(t *testing.T, p api.Page, op api.Op, want api.Errno) {
	t.Helper()
	if got, e := Do(p, op); e != want || !none(got) {
		t.Fatalf("Do(%s, %+v): %s, %d, want %d", shown(p), op, shown(got), int(e), int(want))
	}
}

// The chapter's examples, one by one.
func TestExamples(t *testing.T) {
	p := api.Page{Kind: heapKind}
	if b, e := Encode(p); Size(p) != 18 || Room(p) != 180 || len(b) != 512 || e != api.OK {
		t.Errorf("an empty heap: %d, %d, %d bytes, %d", Size(p), Room(p), len(b), int(e))
	}
	p = does(t, p, putAt(0, "ab"), api.Page{Kind: heapKind, Cells: []api.Cell{cell("ab")}})
	if Size(p) != 26 {
		t.Errorf("its size: %d", Size(p))
	}
	fails(t, p, putAt(0, "ab"), api.ErrThere)
	fails(t, p, putAt(2, "ab"), api.ErrRange)
	p = does(t, p, putAt(1, "c"), api.Page{Kind: heapKind, Cells: []api.Cell{cell("ab"), cell("c")}})
	if Size(p) != 33 {
		t.Errorf("its size: %d", Size(p))
	}
	p = does(t, p, killAt(0, 7), api.Page{Kind: heapKind, Cells: []api.Cell{dead(7, "ab"), cell("c")}})
	fails(t, p, killAt(0, 8), api.ErrThere)
	fails(t, p, wakeAt(1), api.ErrNone)
	p = does(t, p, freeAt(1), api.Page{Kind: heapKind, Cells: []api.Cell{dead(7, "ab")}})
	wake, e := Undo(heapKind, killAt(0, 7))
	if e != api.OK {
		t.Errorf("Undo(Kill 0 by 7): %d", int(e))
	}
	does(t, p, wake, api.Page{Kind: heapKind, Cells: []api.Cell{cell("ab")}})
	leaf := api.Page{Kind: leafKind, Cells: []api.Cell{cell("b"), cell("d")}}
	does(t, leaf, putOf("c"), api.Page{Kind: leafKind, Cells: []api.Cell{cell("b"), cell("c"), cell("d")}})
	fails(t, leaf, putOf("b"), api.ErrThere)
	fails(t, leaf, freeOf("x"), api.ErrNone)
	fails(t, of(innerKind, cell("abcde")), putOf("b"), api.ErrArg)
	undoes(t, leafKind, wakeOf("b"), api.Op{}, api.ErrArg)
}

// undoes asks what Undo answers.
func undoes(t *testing.T, kind int, op, want api.Op, wantErr api.Errno) {
	t.Helper()
	if got, e := Undo(kind, op); e != wantErr || !sameOp(got, want) {
		t.Fatalf("Undo(%d, %+v): %+v, %d, want %+v, %d", kind, op, got, int(e), want, int(wantErr))
	}
}

// someOps are operations of each sort, right and wrong, of few slots and texts.
func someOps() []api.Op {
	var ops []api.Op
	datas := []string{"", "a", "abcd", "abcde", "b", "b0", "zz", long('c', 180), long('c', 181), long('d', 180), long('e', 130)}
	for _, kind := range []int{opPut, opKill, opWake, opFree, 0, 5, -1, 1<<32 + 1, math.MaxInt, math.MinInt} {
		for _, slot := range []int{0, 1, 2, 3, 4, -1, 59, 60, 61, 1 << 32, math.MaxInt, math.MinInt} {
			for _, txn := range []uint32{0, 7, math.MaxUint32} {
				for _, data := range datas {
					ops = append(ops, api.Op{Kind: kind, Slot: slot, Txn: txn, Data: []byte(data)})
				}
			}
		}
	}
	return ops
}

// P7.4: Right of operations of each sort, for each kind of pages, and for numbers that are none.
func TestRight(t *testing.T) {
	for _, kind := range append(otherKinds(), heapKind, leafKind, innerKind) {
		for _, op := range someOps() {
			if got, want := Right(kind, op), rightOp(kind, op); got != want {
				t.Errorf("Right(%d, %+v): %v", kind, op, got)
			}
		}
	}
}

// P7.4: known operations, right ones and ones that differ from them by one thing.
func TestRightKnown(t *testing.T) {
	for _, c := range []struct {
		kind int
		op   api.Op
		want bool
	}{
		{heapKind, putAt(0, "a"), true},
		{heapKind, putAt(-5, "a"), true},
		{heapKind, putAt(math.MaxInt, "a"), true},
		{heapKind, putAt(0, ""), false},
		{heapKind, putAt(0, long('a', 180)), true},
		{heapKind, putAt(0, long('a', 181)), false},
		{heapKind, api.Op{Kind: opPut, Data: []byte("a"), Txn: 1}, false},
		{heapKind, killAt(3, 1), true},
		{heapKind, killAt(3, 0), false},
		{heapKind, killOf("a", 1), false},
		{heapKind, wakeAt(3), true},
		{heapKind, api.Op{Kind: opWake, Txn: 1}, false},
		{heapKind, wakeOf("a"), false},
		{heapKind, freeAt(60), true},
		{heapKind, api.Op{Kind: opFree, Txn: 1}, false},
		{heapKind, freeOf("a"), false},
		{leafKind, putOf("a"), true},
		{leafKind, putAt(1, "a"), false},
		{leafKind, putOf(""), false},
		{leafKind, putOf(long('a', 180)), true},
		{leafKind, putOf(long('a', 181)), false},
		{leafKind, killOf("a", 1), true},
		{leafKind, killOf("a", 0), false},
		{leafKind, killOf("", 1), false},
		{leafKind, killOf(long('a', 181), 1), false},
		{leafKind, api.Op{Kind: opKill, Slot: -1, Txn: 1, Data: []byte("a")}, false},
		{leafKind, wakeOf("a"), true},
		{leafKind, wakeOf(""), false},
		{leafKind, api.Op{Kind: opWake, Txn: 1, Data: []byte("a")}, false},
		{leafKind, freeOf(long('a', 180)), true},
		{leafKind, freeAt(0), false},
		{leafKind, api.Op{Kind: opFree, Slot: 1, Data: []byte("a")}, false},
		{innerKind, putOf("abcde"), false},
		{0, putOf("a"), false},
		{heapKind, api.Op{}, false},
		{heapKind, api.Op{Kind: 5}, false},
		{leafKind, api.Op{Kind: 5, Data: []byte("a")}, false},
		{leafKind, api.Op{Data: []byte("a")}, false},
	} {
		if got := Right(c.kind, c.op); got != c.want {
			t.Errorf("Right(%d, %+v): %v", c.kind, c.op, got)
		}
	}
}

// P7.4: Undo: of a Put the Free, of a Kill the Wake of the same cell, each right for the kind; of all else ErrArg.
func TestUndo(t *testing.T) {
	undoes(t, heapKind, putAt(5, "abc"), freeAt(5), api.OK)
	undoes(t, heapKind, putAt(-5, "abc"), freeAt(-5), api.OK)
	undoes(t, heapKind, killAt(5, 9), wakeAt(5), api.OK)
	undoes(t, leafKind, putOf("abc"), freeOf("abc"), api.OK)
	undoes(t, leafKind, killOf("abc", 9), wakeOf("abc"), api.OK)
	for _, kind := range append(otherKinds(), heapKind, leafKind, innerKind) {
		for _, op := range someOps() {
			want, e := api.Op{}, api.ErrArg
			if rightOp(kind, op) && (op.Kind == opPut || op.Kind == opKill) {
				want, e = api.Op{Kind: 5 - op.Kind, Slot: op.Slot}, api.OK
				if op.Kind == opPut {
					want.Kind = opFree
				} else {
					want.Kind = opWake
				}
				if kind == leafKind {
					want.Data = op.Data
				}
			}
			undoes(t, kind, op, want, e)
			if got, _ := Undo(kind, op); e == api.OK && !rightOp(kind, got) {
				t.Errorf("Undo(%d, %+v): %+v, which is not right", kind, op, got)
			}
		}
	}
}

// wanted is what Do answers by the chapter's words alone.
func wanted(p api.Page, op api.Op) (api.Page, api.Errno) {
	switch {
	case !right(p):
		return api.Page{}, api.ErrForm
	case !rightOp(p.Kind, op):
		return api.Page{}, api.ErrArg
	}
	done, e := twin(p), api.OK
	if p.Kind == heapKind {
		done.Cells, e = wantedOfHeap(done.Cells, op)
	} else {
		done.Cells, e = wantedOfLeaf(done.Cells, op)
	}
	if e == api.OK && !right(done) {
		e = api.ErrFull
	}
	if e != api.OK {
		return api.Page{}, e
	}
	return done, api.OK
}

func wantedOfHeap(cells []api.Cell, op api.Op) ([]api.Cell, api.Errno) {
	isThere := op.Slot >= 0 && op.Slot < len(cells)
	switch op.Kind {
	case opPut:
		if op.Slot < 0 || op.Slot > len(cells) {
			return nil, api.ErrRange
		}
		if isThere && cells[op.Slot].Used {
			return nil, api.ErrThere
		}
		if !isThere {
			cells = append(cells, empty)
		}
		cells[op.Slot] = cell(string(op.Data))
		return cells, api.OK
	case opKill, opWake:
		if !isThere || !cells[op.Slot].Used {
			return nil, api.ErrNone
		}
		return cells, wantedOfKiller(&cells[op.Slot], op)
	}
	if !isThere || !cells[op.Slot].Used {
		return nil, api.ErrNone
	}
	cells[op.Slot] = empty
	for len(cells) > 0 && !cells[len(cells)-1].Used {
		cells = cells[:len(cells)-1]
	}
	return cells, api.OK
}

func wantedOfLeaf(cells []api.Cell, op api.Op) ([]api.Cell, api.Errno) {
	at := slices.IndexFunc(cells, func(c api.Cell) bool { return string(c.Data) == string(op.Data) })
	switch {
	case op.Kind == opPut && at >= 0:
		return nil, api.ErrThere
	case op.Kind == opPut:
		cells = append(cells, cell(string(op.Data)))
		slices.SortFunc(cells, func(a, b api.Cell) int { return strings.Compare(string(a.Data), string(b.Data)) })
		return cells, api.OK
	case at < 0:
		return nil, api.ErrNone
	case op.Kind == opFree:
		return append(cells[:at:at], cells[at+1:]...), api.OK
	}
	return cells, wantedOfKiller(&cells[at], op)
}

// wantedOfKiller is what a Kill, a Wake makes of a cell in use.
func wantedOfKiller(c *api.Cell, op api.Op) api.Errno {
	switch {
	case op.Kind == opKill && c.Killer != 0:
		return api.ErrThere
	case op.Kind == opWake && c.Killer == 0:
		return api.ErrNone
	}
	c.Killer = op.Txn
	return api.OK
}

// checkDo asks that Do answers what the chapter's words say; whether it was done.
func checkDo(t *testing.T, p api.Page, op api.Op) (api.Page, bool) {
	t.Helper()
	want, e := wanted(p, op)
	got, gotErr := Do(p, op)
	if gotErr != e || !same(got, want) {
		t.Fatalf("Do(%s, %+v): %s, %d, want %s, %d", shown(p), op, shown(got), int(gotErr), shown(want), int(e))
	}
	return got, e == api.OK
}

// P7.3: all pages of some cells, whether they may be or not, with every operation of some: what it comes to, which error is first.
func TestDoAll(t *testing.T) {
	ops := slices.DeleteFunc(someOps(), func(op api.Op) bool { return op.Slot > 61 || op.Txn > 7 || op.Kind > 5 || op.Kind < -1 })
	n := 0
	allPages(func(p api.Page) {
		n++
		if !right(p) && n%23 != 0 {
			return
		}
		for _, op := range ops {
			checkDo(t, p, op)
		}
	})
}

// P7.3: ErrForm comes ahead of ErrArg, ErrArg ahead of all else.
func TestDoFirstErrors(t *testing.T) {
	wrong := []api.Op{{}, {Kind: 5}, {Kind: opPut}, {Kind: opPut, Txn: 1, Data: []byte("a")}, {Kind: opKill}, {Kind: opKill, Data: []byte("a")}, {Kind: opPut, Slot: -1, Data: make([]byte, 181)}, {Kind: opPut, Slot: 99}}
	bad := []api.Page{{}, of(4), of(heapKind, empty), of(leafKind, cell("b"), cell("a")), of(innerKind, cell("a")), of(heapKind, withBytes(513-18)...), of(heapKind, append(make([]api.Cell, 60), cell("a"))...)}
	for _, p := range bad {
		for _, op := range append(wrong, putAt(0, "x"), putOf("b"), killAt(0, 1), freeAt(0), putAt(99, "x")) {
			fails(t, p, op, api.ErrForm)
		}
	}
	for _, p := range []api.Page{of(heapKind), of(heapKind, cell("a")), of(leafKind), of(leafKind, cell("a")), of(innerKind), of(innerKind, cell("abcde"))} {
		for _, op := range wrong {
			fails(t, p, op, api.ErrArg)
		}
	}
	for _, op := range []api.Op{putOf("a"), killOf("a", 1), wakeOf("a"), freeOf("a"), killAt(0, 1), wakeAt(0), freeAt(0), putOf("abcde")} {
		fails(t, of(innerKind, cell("abcde")), op, api.ErrArg)
		fails(t, of(innerKind), op, api.ErrArg)
	}
}

// P7.3: a heap's Put: ErrRange, ErrThere, ErrFull, in this order; in a place that is not in use, and behind the last one.
func TestHeapPut(t *testing.T) {
	p := of(heapKind, cell("a"), empty, dead(7, "b"), empty, cell("a"))
	for _, slot := range []int{-1, -2, 6, 7, 59, 60, 61, 1 << 16, 1 << 32, math.MaxInt, math.MinInt} {
		fails(t, p, putAt(slot, "x"), api.ErrRange)
		fails(t, p, putAt(slot, long('x', 180)), api.ErrRange)
	}
	for _, slot := range []int{0, 2, 4} {
		fails(t, p, putAt(slot, "x"), api.ErrThere)
		fails(t, p, putAt(slot, long('x', 180)), api.ErrThere)
	}
	does(t, p, putAt(1, "a"), of(heapKind, cell("a"), cell("a"), dead(7, "b"), empty, cell("a")))
	does(t, p, putAt(3, long('x', 180)), of(heapKind, cell("a"), empty, dead(7, "b"), cell(long('x', 180)), cell("a")))
	does(t, p, putAt(5, "\x00"), of(heapKind, cell("a"), empty, dead(7, "b"), empty, cell("a"), cell("\x00")))
	does(t, of(heapKind), putAt(0, "x"), of(heapKind, cell("x")))
	fails(t, of(heapKind), putAt(1, "x"), api.ErrRange)
}

// P7.3: ErrFull of a heap and of a leaf: one cell too many, one byte too many; ErrThere and ErrRange come ahead of it.
func TestFull(t *testing.T) {
	sixty := numbered(60, 2)
	fails(t, of(heapKind, sixty...), putAt(60, "x"), api.ErrFull)
	fails(t, of(heapKind, sixty...), putAt(61, "x"), api.ErrRange)
	fails(t, of(heapKind, sixty...), putAt(59, "x"), api.ErrThere)
	fails(t, of(leafKind, sixty...), putOf("x"), api.ErrFull)
	fails(t, of(leafKind, sixty...), putOf("Aa"), api.ErrThere)
	hole := append([]api.Cell{empty}, sixty[1:]...)
	fails(t, of(heapKind, hole...), putAt(60, "x"), api.ErrFull)
	does(t, of(heapKind, hole...), putAt(0, "x"), of(heapKind, append([]api.Cell{cell("x")}, sixty[1:]...)...))
	for kind := heapKind; kind <= leafKind; kind++ {
		cells := sixty[:59]
		op := putAt(59, "zz")
		if kind == leafKind {
			op.Slot = 0
		}
		does(t, of(kind, cells...), op, of(kind, append(slices.Clone(cells), cell("zz"))...))
	}
	for size := 400; size <= pageBytes; size++ {
		cells := withBytes(size - 18)
		for n := 1; n <= mostCell; n++ {
			checkDo(t, of(heapKind, cells...), putAt(len(cells), long('~', n)))
			checkDo(t, of(leafKind, cells...), putOf(long('~', n)))
			// With its place there already, it wants four bytes and its own.
			if size-20 > 25 {
				checkDo(t, of(heapKind, append([]api.Cell{empty}, withBytes(size-20)...)...), putAt(0, long('~', n)))
			}
		}
	}
}

// P7.3: a heap's Kill, Wake and Free.
func TestHeapOthers(t *testing.T) {
	p := of(heapKind, cell("a"), empty, dead(7, "b"), empty, cell("a"))
	for _, slot := range []int{1, 3, 5, 6, -1, 60, 1 << 32, math.MaxInt, math.MinInt} {
		fails(t, p, killAt(slot, 1), api.ErrNone)
		fails(t, p, wakeAt(slot), api.ErrNone)
		fails(t, p, freeAt(slot), api.ErrNone)
	}
	for _, by := range []uint32{1, 7, 8, math.MaxUint32} {
		fails(t, p, killAt(2, by), api.ErrThere)
		does(t, p, killAt(4, by), of(heapKind, cell("a"), empty, dead(7, "b"), empty, dead(by, "a")))
	}
	fails(t, p, wakeAt(0), api.ErrNone)
	does(t, p, wakeAt(2), of(heapKind, cell("a"), empty, cell("b"), empty, cell("a")))
	does(t, p, freeAt(0), of(heapKind, empty, empty, dead(7, "b"), empty, cell("a")))
	does(t, p, freeAt(2), of(heapKind, cell("a"), empty, empty, empty, cell("a")))
	p = does(t, p, freeAt(4), of(heapKind, cell("a"), empty, dead(7, "b")))
	p = does(t, p, freeAt(2), of(heapKind, cell("a")))
	p = does(t, p, freeAt(0), of(heapKind))
	fails(t, p, freeAt(0), api.ErrNone)
	fails(t, p, killAt(0, 1), api.ErrNone)
	fails(t, p, wakeAt(0), api.ErrNone)
	does(t, of(heapKind, empty, empty, cell("a")), freeAt(2), of(heapKind))
}

// P7.3: of a leaf the cell is the one with that Data, and no other; a Put stands in its place.
func TestLeaf(t *testing.T) {
	p := of(leafKind, cell("b"), dead(7, "d"), cell("d\x00"), cell("f"))
	for _, s := range []string{"a", "b\x00", "c", "d\x00\x00", "e", "ff", "\xff", "\x00"} {
		fails(t, p, killOf(s, 1), api.ErrNone)
		fails(t, p, wakeOf(s), api.ErrNone)
		fails(t, p, freeOf(s), api.ErrNone)
		checkDo(t, p, putOf(s))
	}
	for _, s := range []string{"b", "d", "d\x00", "f"} {
		fails(t, p, putOf(s), api.ErrThere)
	}
	does(t, p, putOf("a"), of(leafKind, cell("a"), cell("b"), dead(7, "d"), cell("d\x00"), cell("f")))
	does(t, p, putOf("g"), of(leafKind, cell("b"), dead(7, "d"), cell("d\x00"), cell("f"), cell("g")))
	does(t, p, putOf("c"), of(leafKind, cell("b"), cell("c"), dead(7, "d"), cell("d\x00"), cell("f")))
	fails(t, p, killOf("d", 8), api.ErrThere)
	does(t, p, killOf("d\x00", 8), of(leafKind, cell("b"), dead(7, "d"), dead(8, "d\x00"), cell("f")))
	does(t, p, wakeOf("d"), of(leafKind, cell("b"), cell("d"), cell("d\x00"), cell("f")))
	fails(t, p, wakeOf("b"), api.ErrNone)
	does(t, p, freeOf("d"), of(leafKind, cell("b"), cell("d\x00"), cell("f")))
	does(t, p, freeOf("f"), of(leafKind, cell("b"), dead(7, "d"), cell("d\x00")))
	does(t, of(leafKind, cell("b")), freeOf("b"), of(leafKind))
	does(t, of(leafKind), putOf("b"), of(leafKind, cell("b")))
	for _, op := range []api.Op{killOf("b", 1), wakeOf("b"), freeOf("b")} {
		fails(t, of(leafKind), op, api.ErrNone)
	}
}

// P7.3: bytes of whatever kind are put on a leaf and found there, however many there are.
func TestLeafOrder(t *testing.T) {
	texts := shortTexts(3, "\x00a\x80\xff")[1:60]
	for seed := range 10 {
		pick := picker(seed)
		var put []string
		p := of(leafKind)
		for len(put) < 59 && Room(p) >= 3 {
			s := texts[pick(len(texts))]
			if q, done := checkDo(t, p, putOf(s)); done {
				put = append(put, s)
				p = q
			}
		}
		for _, s := range put {
			p, _ = checkDo(t, p, killOf(s, 5))
		}
		for _, s := range put {
			p, _ = checkDo(t, p, freeOf(s))
		}
		if len(p.Cells) > 0 {
			t.Errorf("left: %s", shown(p))
		}
	}
}

// someOp is an operation of a script: most often one that may be done on the page.
func someOp(pick func(n int) int, p api.Page) api.Op {
	op := api.Op{Kind: pick(4) + 1}
	if pick(2) == 0 {
		op.Kind = opPut
	}
	if op.Kind == opKill {
		op.Txn = uint32(pick(5))
	}
	if p.Kind == leafKind {
		op.Data = someBytes(pick, pick(1+pick(1+pick(182))))
		if len(p.Cells) > 0 && pick(3) > 0 {
			op.Data = p.Cells[pick(len(p.Cells))].Data
		}
		return op
	}
	op.Slot = pick(len(p.Cells)+3) - 1
	if op.Kind == opPut {
		op.Data = someBytes(pick, pick(1+pick(1+pick(182))))
	}
	return op
}

// P7.3, P7.7: long scripts of operations: behind each the page may be, its head stays, what undoes it makes it what it was.
func TestScripts(t *testing.T) {
	for seed := range 120 {
		pick := picker(100 + seed)
		p := of(seed%2 + 1)
		for range 400 {
			op := someOp(pick, p)
			q, done := checkDo(t, p, op)
			if !done {
				continue
			}
			if !right(q) || q.Kind != p.Kind || q.LSN != p.LSN || q.Next != p.Next {
				t.Fatalf("Do(%s, %+v): %s", shown(p), op, shown(q))
			}
			if undo, e := Undo(p.Kind, op); e == api.OK {
				does(t, q, undo, p)
			}
			p = q
			encodes(t, p, bytesOf(p))
		}
	}
}

// P7.7: no other cell than the one that is meant has changed, those of a heap that were dropped aside.
func TestOthersStay(t *testing.T) {
	for seed := range 60 {
		pick := picker(500 + seed)
		p := somePage(pick)
		if p.Kind == innerKind {
			continue
		}
		for range 200 {
			op := someOp(pick, p)
			q, e := Do(p, op)
			if e != api.OK {
				continue
			}
			if p.Kind == heapKind {
				stayOfHeap(t, p, q, op)
			} else {
				stayOfLeaf(t, p, q, op)
			}
			p = q
		}
	}
}

func stayOfHeap(t *testing.T, p, q api.Page, op api.Op) {
	t.Helper()
	for i := range max(len(p.Cells), len(q.Cells)) {
		var was, is api.Cell
		if i < len(p.Cells) {
			was = p.Cells[i]
		}
		if i < len(q.Cells) {
			is = q.Cells[i]
		}
		if sameCell(was, is) == (i == op.Slot) {
			t.Fatalf("Do(%s, %+v): %s", shown(p), op, shown(q))
		}
	}
}

func stayOfLeaf(t *testing.T, p, q api.Page, op api.Op) {
	t.Helper()
	meant := func(c api.Cell) bool { return string(c.Data) == string(op.Data) }
	was, is := slices.DeleteFunc(twin(p).Cells, meant), slices.DeleteFunc(twin(q).Cells, meant)
	if !slices.EqualFunc(was, is, sameCell) {
		t.Fatalf("Do(%s, %+v): %s", shown(p), op, shown(q))
	}
}

// P7.7: of a page with Room n above 0 a Put of n bytes that is not there is done, one of n + 1 is not.
func TestRoomIsDone(t *testing.T) {
	pick := picker(7)
	for range 3000 {
		p := somePage(pick)
		n := Room(p)
		slot := 0
		if p.Kind == heapKind {
			slot = slices.IndexFunc(p.Cells, func(c api.Cell) bool { return !c.Used })
			if slot < 0 {
				slot = len(p.Cells)
			}
		}
		for _, more := range []int{0, 1} {
			op := putAt(slot, long(0xFE, n+more))
			_, done := checkDo(t, p, op)
			if done != (n > 0 && more == 0) {
				t.Fatalf("Room(%s): %d; a Put of %d more: %v", shown(p), n, more, done)
			}
		}
	}
}
