package page

import (
	"bytes"
	"slices"
	"testing"

	"cadastre/api"
)

// spread is a page that is alike, with other cells and bytes behind the lengths of its lists, in the same memory.
func spread(p api.Page, behind byte) api.Page {
	p = twin(p)
	for i := range p.Cells {
		p.Cells[i].Data = spreadBytes(p.Cells[i].Data, behind)
	}
	more := slices.Repeat([]api.Cell{{Used: behind > 0, Killer: uint32(behind), Data: bytes.Repeat([]byte{behind}, int(behind))}}, 5)
	p.Cells = append(p.Cells, more...)[:len(p.Cells)]
	return p
}

func spreadBytes(b []byte, behind byte) []byte {
	return append(bytes.Clone(b), bytes.Repeat([]byte{behind}, 16)...)[:len(b)]
}

// whole is a page with all that lies behind its lists' lengths, written out.
func whole(p api.Page) string {
	cells := p.Cells[:cap(p.Cells)]
	text := shown(api.Page{Kind: p.Kind})
	for _, c := range cells {
		text += " " + shown(api.Page{Cells: []api.Cell{c}}) + string(c.Data[:cap(c.Data)])
	}
	return text
}

// spoil changes bytes, up to the end of the memory that they have.
func spoil(b []byte) {
	b = b[:cap(b)]
	for i := range b {
		b[i] ^= 0xA5
	}
}

// spoilPage changes all the memory that a page has.
func spoilPage(p api.Page) {
	cells := p.Cells[:cap(p.Cells)]
	for i := range cells {
		spoil(cells[i].Data)
		cells[i].Used = !cells[i].Used
		cells[i].Killer += 77
		cells[i].Data = nil
	}
}

// somePages are pages of each kind, some of which may not be.
func somePages() []api.Page {
	return []api.Page{of(heapKind), of(heapKind, cell("a"), empty, dead(3, "bb"), cell(long('c', 180))), of(heapKind, numbered(60, 2)...), of(leafKind), of(leafKind, cell("b"), dead(3, "d"), cell("f")), of(leafKind, numbered(59, 2)...),
		of(innerKind), of(innerKind, children(10, 5)...), of(heapKind, cell("a"), empty), of(leafKind, cell("b"), cell("a")), {}}
}

// pageOps are operations for these pages: done, and refused, of each cause.
func pageOps() []api.Op {
	return []api.Op{putAt(1, "new"), putAt(4, "new"), putAt(0, "new"), killAt(0, 9), wakeAt(2), freeAt(3), freeAt(0), killAt(2, 9), putOf("c"), putOf("zz"), killOf("b", 9), wakeOf("d"), freeOf("f"), freeOf("b"), killOf("d", 9), freeOf("x"), {}, {Kind: opPut, Txn: 1, Data: []byte("a")}}
}

// calls are the calls of the package, each of a page, an operation and bytes.
func calls() map[string]func(p api.Page, op api.Op, b []byte) any {
	return map[string]func(p api.Page, op api.Op, b []byte) any{
		"May":    func(p api.Page, op api.Op, b []byte) any { return May(p) },
		"Size":   func(p api.Page, op api.Op, b []byte) any { return Size(p) },
		"Room":   func(p api.Page, op api.Op, b []byte) any { return Room(p) },
		"Encode": func(p api.Page, op api.Op, b []byte) any { x, e := Encode(p); return [2]any{string(x), e} },
		"Decode": func(p api.Page, op api.Op, b []byte) any { q, e := Decode(b); return [2]any{shown(q), e} },
		"Right":  func(p api.Page, op api.Op, b []byte) any { return Right(p.Kind, op) },
		"Do":     func(p api.Page, op api.Op, b []byte) any { q, e := Do(p, op); return [2]any{shown(q), e} },
		"Undo": func(p api.Page, op api.Op, b []byte) any {
			x, e := Undo(p.Kind, op)
			return [5]any{x.Kind, x.Slot, x.Txn, string(x.Data), e}
		},
	}
}

// P7.5: what is handed in stays, and so does what lies behind its length, which is not read either.
func TestArgumentsStay(t *testing.T) {
	for name, call := range calls() {
		for _, p := range somePages() {
			for _, op := range pageOps() {
				var answers []any
				for _, behind := range []byte{0, 0xAA} {
					q, bytesOfQ := spread(p, behind), spreadBytes(bytesOf(p), behind)
					handed := op
					handed.Data = spreadBytes(op.Data, behind)
					before := whole(q) + string(handed.Data[:cap(handed.Data)]) + string(bytesOfQ[:cap(bytesOfQ)])
					answers = append(answers, call(q, handed, bytesOfQ))
					if after := whole(q) + string(handed.Data[:cap(handed.Data)]) + string(bytesOfQ[:cap(bytesOfQ)]); after != before {
						t.Fatalf("%s(%s, %+v) has changed what it was handed", name, shown(p), op)
					}
				}
				if answers[0] != answers[1] {
					t.Fatalf("%s(%s, %+v) hangs on what lies behind the lengths: %v, %v", name, shown(p), op, answers[0], answers[1])
				}
			}
		}
	}
}

// P7.5: what Do answers is new memory: neither the page's nor the operation's nor an earlier answer's.
func TestDoIsNew(t *testing.T) {
	for _, p := range somePages() {
		for _, op := range pageOps() {
			q, handed := spread(p, 0xAA), op
			handed.Data = spreadBytes(op.Data, 0xAA)
			first, e := Do(q, handed)
			if e != api.OK {
				continue
			}
			want := twin(first)
			second, _ := Do(q, handed)
			spoilPage(first)
			if !same(second, want) || !same(q, p) || !sameOp(handed, op) {
				t.Fatalf("Do(%s, %+v): two answers, or an answer and what was handed in, share memory", shown(p), op)
			}
			spoilPage(q)
			spoil(handed.Data)
			if !same(second, want) {
				t.Fatalf("Do(%s, %+v): what was handed in is kept", shown(p), op)
			}
		}
	}
}

// apart asks that no two cells of an answer share memory, and none lies in another one's, up to the end of what it has.
func apart(t *testing.T, p api.Page) {
	t.Helper()
	want := twin(p)
	for i := range p.Cells {
		spoil(p.Cells[i].Data)
		for j := range p.Cells {
			if j != i && !bytes.Equal(p.Cells[j].Data, want.Cells[j].Data) {
				t.Fatalf("%s: the cells %d and %d share memory", shown(want), i, j)
			}
		}
		spoil(p.Cells[i].Data)
	}
}

// P7.5: of an answer each list is its own, though the same bytes were handed in for all cells.
func TestCellsApart(t *testing.T) {
	data := []byte("the same")
	p := of(heapKind, slices.Repeat([]api.Cell{{Used: true, Data: data}}, 9)...)
	for _, op := range []api.Op{{Kind: opPut, Slot: 9, Data: data}, killAt(3, 1), freeAt(8), freeAt(2)} {
		q, e := Do(p, op)
		if e != api.OK {
			t.Fatalf("Do(%s, %+v): %d", shown(p), op, int(e))
		}
		apart(t, q)
	}
	for _, q := range []api.Page{p, of(leafKind, numbered(50, 2)...), of(innerKind, children(30, 4)...), of(heapKind, cell("a"), empty, dead(3, "b"))} {
		decoded, e := Decode(bytesOf(q))
		if e != api.OK {
			t.Fatalf("Decode of %s: %d", shown(q), int(e))
		}
		apart(t, decoded)
	}
}

// P7.5: what Encode, Decode and Undo answer is new memory.
func TestAnswersAreNew(t *testing.T) {
	for _, p := range somePages() {
		if !right(p) {
			continue
		}
		q := spread(p, 0xAA)
		first, _ := Encode(q)
		second, _ := Encode(q)
		spoil(first)
		spoilPage(q)
		if !bytes.Equal(second, bytesOf(p)) {
			t.Fatalf("Encode(%s): answers share memory", shown(p))
		}
		one, _ := Decode(second)
		two, _ := Decode(second)
		spoilPage(one)
		if !bytes.Equal(second, bytesOf(p)) {
			t.Fatalf("Decode of %s: an answer shares the argument's memory", shown(p))
		}
		spoil(second)
		if !same(two, p) {
			t.Fatalf("Decode of %s: answers share memory", shown(p))
		}
	}
	for _, op := range []api.Op{putOf("abc"), killOf("abc", 1)} {
		first, _ := Undo(leafKind, op)
		second, _ := Undo(leafKind, op)
		spoil(first.Data)
		if string(op.Data) != "abc" {
			t.Fatalf("Undo(%+v): the answer shares the argument's memory", op)
		}
		spoil(op.Data)
		if string(second.Data) != "abc" {
			t.Fatalf("Undo: answers share memory")
		}
	}
}
