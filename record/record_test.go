package record

import (
	"bytes"
	"math"
	"slices"
	"testing"

	"cadastre/api"
)

// asks asks what May, Size and Encode tell of a record: its bytes, or that it may not be (no bytes).
func asks(t *testing.T, r api.Record, want []byte) {
	t.Helper()
	if got := May(r); got != (len(want) > 0) {
		t.Fatalf("May(%s): %v", shown(r), got)
	}
	if got := Size(r); got != len(want) {
		t.Fatalf("Size(%s): %d, want %d", shown(r), got, len(want))
	}
	wantError := api.OK
	if len(want) == 0 {
		wantError = api.ErrForm
	}
	if got, e := Encode(r); e != wantError || !bytes.Equal(got, want) {
		t.Fatalf("Encode(%s): %x, %d, want %x", shown(r), got, int(e), want)
	}
}

// P9.1: known bytes, written out, the chapter's examples first.
func TestBytesKnown(t *testing.T) {
	for _, c := range []struct {
		r    api.Record
		want []byte
	}{
		{begin(300), []byte{5, 0, 1, 0xac, 2}},
		{api.Record{Kind: recDo, Txn: 1, Page: 2, Op: put(0, "a")}, []byte{12, 0, 2, 1, 0, 2, 0, 1, 0, 0, 1, 'a'}},
		{begin(0), nil},
		{api.Record{Kind: recEnd, Txn: 1, Page: 4}, nil},
		{begin(1), []byte{4, 0, 1, 1}},
		{did(0, put(59, "hi")), []byte{14, 0, 2, 5, 0xac, 2, 7, 0, 1, 59, 0, 2, 'h', 'i'}},
		{did(0, kill(3, 300)), []byte{13, 0, 2, 5, 0xac, 2, 7, 0, 2, 3, 0xac, 2, 0}},
		{did(128, killOf("k", 9)), []byte{14, 0, 2, 5, 0xac, 2, 7, 0x80, 1, 2, 0, 9, 1, 'k'}},
		{undid(0, wake(3)), []byte{14, 0, 3, 5, 0xac, 2, 0xc8, 1, 7, 0, 3, 3, 0, 0}},
		{undid(9, freeOf("\x00")), []byte{15, 0, 3, 5, 0xac, 2, 0xc8, 1, 7, 9, 4, 0, 0, 1, 0}},
		{shape(image(6, heapKind)), []byte{9, 0, 4, 1, 6, 1, 0xac, 2, 0}},
		{shape(image(6, heapKind, cell("ab"), unused, dead(300, "c"))), []byte{18, 0, 4, 1, 6, 1, 0xac, 2, 3, 2, 0, 'a', 'b', 0, 1, 0xac, 2, 'c'}},
		{shape(api.Image{Page: 1, To: api.Page{Kind: leafKind}}, api.Image{Page: 300, To: api.Page{Kind: innerKind, Cells: []api.Cell{cell("abcde")}}}), []byte{20, 0, 4, 2, 1, 2, 0, 0, 0xac, 2, 3, 0, 1, 5, 0, 'a', 'b', 'c', 'd', 'e'}},
		{ended(recCommit, 1, 0), []byte{5, 0, 5, 1, 0}},
		{ended(recAbort, 1, 128), []byte{6, 0, 6, 1, 0x80, 1}},
		{ended(recEnd, 127, 127), []byte{5, 0, 7, 127, 127}},
		{check(nil, nil, 0), []byte{6, 0, 8, 0, 0, 0}},
		{check([]api.Live{{Txn: 1, Last: 300, Undo: 2, Lost: true}, {Txn: 7, Last: 8}}, []api.Dirty{{Page: 2, From: 300}, {Page: 3}}, 9), []byte{20, 0, 8, 2, 1, 0xac, 2, 2, 1, 7, 8, 0, 0, 2, 2, 0xac, 2, 3, 0, 9}},
	} {
		asks(t, c.r, c.want)
	}
	asks(t, ended(recEnd, math.MaxUint32, math.MaxUint64), []byte{18, 0, 7, 255, 255, 255, 255, 15, 255, 255, 255, 255, 255, 255, 255, 255, 255, 1})
}

// P9.1: records of each kind that may be, and what they become with a field set anew, or two: as the chapter's words say.
func TestAllChanges(t *testing.T) {
	may, mayNot := 0, 0
	ask := func(r api.Record) {
		t.Helper()
		want := textOf(r)
		asks(t, r, want)
		if len(want) > 0 {
			may++
		} else {
			mayNot++
		}
	}
	for _, r := range samples() {
		if !right(r) {
			t.Fatalf("%s may not be: not a sample", shown(r))
		}
		ask(r)
		for _, one := range changes() {
			for _, other := range changes() {
				changed := twin(r)
				one(&changed)
				other(&changed)
				ask(changed)
			}
		}
	}
	if may < 5000 || mayNot < 50000 {
		t.Errorf("%d that may be, %d that may not: not a test", may, mayNot)
	}
}

// P9.1: the eight kinds, and no others, whatever else stands in the record; of those with nothing but a kind a RecCheck alone.
func TestKinds(t *testing.T) {
	asks(t, api.Record{}, nil)
	for _, kind := range []int{0, 9, 10, -1, -2, 15, 16, 128 + 1, 255, 256, 256 + 1, 256 + 5, 1<<16 + 1, 1<<32 + 1, 1<<32 + 7, math.MaxInt, math.MinInt, math.MinInt + 1} {
		asks(t, api.Record{Kind: kind}, nil)
		for _, r := range samples() {
			r.Kind = kind
			asks(t, r, nil)
		}
	}
	for kind := 1; kind <= 7; kind++ {
		asks(t, api.Record{Kind: kind}, nil)
	}
	asks(t, api.Record{Kind: recCheck}, []byte{6, 0, 8, 0, 0, 0})
}

// P9.1: each field that a kind does not use is zero, however small a part of it is not.
func TestUnusedFields(t *testing.T) {
	sets := []struct {
		used string // by these kinds, by their numbers
		set  change
	}{
		{"123567", func(r *api.Record) { r.Txn = 1 << 31 }},
		{"23567", func(r *api.Record) { r.Prev = 1 << 63 }},
		{"3", func(r *api.Record) { r.Undo = 1 << 63 }},
		{"23", func(r *api.Record) { r.Page = 1 << 31 }},
		{"", func(r *api.Record) { r.Root = 1 << 31 }},
		{"", func(r *api.Record) { r.Op.Kind = -1 }},
		{"", func(r *api.Record) { r.Op.Slot = 60 }},
		{"", func(r *api.Record) { r.Op.Slot = -1 }},
		{"", func(r *api.Record) { r.Op.Data = long('a', 181) }},
		{"4", func(r *api.Record) { r.Images = []api.Image{image(1, heapKind)} }},
		{"", func(r *api.Record) { r.Images = []api.Image{{}} }},
		{"8", func(r *api.Record) { r.Lives = lives(1, 1) }},
		{"", func(r *api.Record) { r.Lives = []api.Live{{}} }},
		{"8", func(r *api.Record) { r.Dirty = dirties(1, 1) }},
		{"", func(r *api.Record) { r.Dirty = []api.Dirty{{}} }},
		{"8", func(r *api.Record) { r.Next = 1 << 31 }},
		{"12345678", func(r *api.Record) { r.LSN = math.MaxUint64 }},
		{"12345678", func(r *api.Record) {
			r.Op = api.Op{Kind: r.Op.Kind, Slot: r.Op.Slot, Txn: r.Op.Txn, Data: append([]byte{}, r.Op.Data...)}
		}},
	}
	heap := []api.Record{begin(3), did(0, put(1, "a")), undid(0, free(1)), shape(image(2, leafKind)), ended(recCommit, 3, 4), ended(recAbort, 3, 4), ended(recEnd, 3, 4), check(nil, nil, 7)}
	for i, s := range sets {
		for _, r := range heap {
			s.set(&r)
			if want := slices.Contains([]byte(s.used), byte('0'+r.Kind)); May(r) != want {
				t.Errorf("set %d: May(%s): %v", i, shown(r), !want)
			}
		}
	}
}

// P9.1: the LSN plays no part, of no kind: neither whether it may be nor its bytes hang on it.
func TestLSN(t *testing.T) {
	for _, r := range samples() {
		want := textOf(r)
		for _, lsn := range []uint64{1, 2, 300, 1 << 32, 1 << 62, math.MaxUint64} {
			r.LSN = lsn
			asks(t, r, want)
		}
	}
}

// P9.1: the operations of a RecDo and of a RecUndo: of every kind, every slot, every length, of a heap's page and of a tree's.
func TestOps(t *testing.T) {
	for _, base := range []api.Record{did(0, api.Op{}), undid(0, api.Op{})} {
		for _, root := range []uint32{0, 1, 7, 1 << 31} {
			for _, kind := range []int{-1, 0, 1, 2, 3, 4, 5, 255, 256, 257, 258, 259, 260, 1<<32 + 1, 1<<32 + 3, math.MinInt} {
				for _, slot := range []int{-1, 0, 1, 58, 59, 60, 61, 256, 1 << 32, math.MaxInt, math.MinInt} {
					for _, txn := range []uint32{0, 1, 5, math.MaxUint32} {
						for _, n := range []int{0, 1, 2, 179, 180, 181, 256, 257} {
							r := base
							r.Root, r.Op = root, api.Op{Kind: kind, Slot: slot, Txn: txn, Data: long('k', n)}
							asks(t, r, textOf(r))
						}
					}
				}
			}
		}
	}
	for slot := -300; slot < 600; slot++ {
		for _, r := range []api.Record{did(0, put(slot, "a")), did(0, kill(slot, 5)), undid(0, wake(slot)), undid(0, free(slot))} {
			if got := May(r); got != (slot >= 0 && slot <= 59) {
				t.Errorf("May(%s): %v", shown(r), got)
			}
		}
	}
	for n := range 400 {
		for _, r := range []api.Record{did(0, put(0, string(long('a', n)))), did(1, putOf(string(long('a', n)))), did(1, killOf(string(long('a', n)), 1)), undid(1, wakeOf(string(long('a', n)))), undid(1, freeOf(string(long('a', n))))} {
			if got := May(r); got != (n >= 1 && n <= 180) {
				t.Errorf("May(%s): %v", shown(r), got)
			}
		}
	}
}

// P9.1: whose a Kill is need not be whose record it is; Prev, Undo, Root, Next may be anything.
func TestFreeFields(t *testing.T) {
	for _, x := range []uint64{0, 1, 2, 127, 128, 1<<32 - 1, 1 << 32, 1 << 62, 1 << 63, math.MaxUint64} {
		for _, r := range []api.Record{ended(recCommit, 1, x), ended(recAbort, 1, x), ended(recEnd, 1, x), {Kind: recDo, Txn: 1, Prev: x, Page: 1, Op: put(0, "a")}, {Kind: recUndo, Txn: 1, Prev: x, Undo: ^x, Page: 1, Op: free(0)},
			{Kind: recDo, Txn: 1, Page: 1, Op: kill(0, uint32(x)|2)}, {Kind: recDo, Txn: 1, Page: 1, Root: uint32(x) | 1, Op: putOf("a")}, check([]api.Live{{Txn: 1, Last: x, Undo: ^x}}, []api.Dirty{{Page: 1, From: x}}, uint32(x))} {
			if !right(r) {
				t.Fatalf("%s: not a test", shown(r))
			}
			asks(t, r, textOf(r))
		}
	}
}

// P9.1: numbers rise strictly, and none is 0: the images', the Lives', the Dirty's; all lists of up to four of some numbers.
func TestRise(t *testing.T) {
	numbers := []uint32{0, 1, 2, 3, 1 << 31, math.MaxUint32}
	var ask func(l []uint32)
	ask = func(l []uint32) {
		r, s, q := api.Record{Kind: recShape}, check(nil, nil, 1), check(nil, nil, 1)
		for _, n := range l {
			r.Images = append(r.Images, image(n, heapKind))
			s.Lives = append(s.Lives, api.Live{Txn: n})
			q.Dirty = append(q.Dirty, api.Dirty{Page: n})
		}
		want := rising(l)
		if May(r) != (want && len(l) > 0) || May(s) != want || May(q) != want {
			t.Fatalf("numbers %d: %v, %v, %v", l, May(r), May(s), May(q))
		}
		asks(t, r, textOf(r))
		asks(t, s, textOf(s))
		asks(t, q, textOf(q))
		if len(l) == 4 {
			return
		}
		for _, n := range numbers {
			ask(append(slices.Clone(l), n))
		}
	}
	ask(nil)
}

// P9.1: each page of an image may be, and its LSN is 0, wherever the image stands.
func TestImages(t *testing.T) {
	good := image(5, leafKind, cell("a"))
	bad := []api.Page{{}, {Kind: 4}, {Kind: heapKind, LSN: 1}, {Kind: leafKind, LSN: 1 << 63}, {Kind: innerKind, LSN: 1 << 32}, {Kind: 257}, {Kind: -1}, {Kind: 1 << 32}, {Kind: heapKind, Cells: []api.Cell{cell("a"), unused}},
		{Kind: leafKind, Cells: []api.Cell{cell("b"), cell("a")}}, {Kind: leafKind, Cells: []api.Cell{unused}}, {Kind: innerKind, Cells: []api.Cell{cell("abcd")}}, {Kind: innerKind, Cells: []api.Cell{dead(1, "abcde")}},
		{Kind: heapKind, Cells: []api.Cell{cell("")}}, {Kind: heapKind, Cells: []api.Cell{{Killer: 1}, cell("a")}}, {Kind: heapKind, Cells: []api.Cell{{Data: []byte("a")}, cell("a")}}, {Kind: heapKind, Cells: []api.Cell{cell(string(long('a', 181)))}},
		{Kind: heapKind, Cells: slices.Repeat([]api.Cell{cell("a")}, 61)}, {Kind: leafKind, Cells: append(full(leafKind).Cells, cell("d"))}}
	asks(t, shape(good), textOf(shape(good)))
	for _, p := range bad {
		if rightPage(p) && p.LSN == 0 {
			t.Fatalf("%+v may be: not a test", p)
		}
		for _, images := range [][]api.Image{{{Page: 5, To: p}}, {{Page: 4, To: p}, good}, {good, {Page: 6, To: p}}, {{Page: 4, To: good.To}, good, {Page: 6, To: p}}} {
			asks(t, shape(images...), nil)
		}
	}
}

// checkOf is a RecCheck of so many bytes: dirty pages, of 6 to 15 bytes each.
func checkOf(size int) api.Record {
	r := check(nil, nil, 1)
	for missing := size - len(rawBytes(r)); missing > 0; missing = size - len(rawBytes(r)) {
		for ; missing > 100; missing -= 15 {
			r.Dirty = append(r.Dirty, api.Dirty{Page: 1<<28 + uint32(len(r.Dirty)), From: math.MaxUint64})
		}
		n := missing
		if n > 15 {
			n = min(15, missing-6)
		}
		r.Dirty = append(r.Dirty, api.Dirty{Page: 1<<28 + uint32(len(r.Dirty)), From: 1<<(7*(n-5)) - 1})
		if n == 15 {
			r.Dirty[len(r.Dirty)-1].From = math.MaxUint64
		}
	}
	return r
}

// shapeOf is a RecShape of so many bytes: full pages, and pages of a cell, of 9 to 128 bytes each.
func shapeOf(size int) api.Record {
	r := shape()
	for missing := size - len(rawBytes(r)); missing > 0; missing = size - len(rawBytes(r)) {
		for ; missing > 1000; missing -= 490 {
			r.Images = append(r.Images, api.Image{Page: 1<<14 + uint32(len(r.Images)), To: full(heapKind)})
		}
		n := missing
		if n > 128 {
			n = min(128, missing-9)
		}
		i := api.Image{Page: 1<<14 + uint32(len(r.Images)), To: api.Page{Kind: leafKind, Cells: []api.Cell{cell(string(long('p', n-8)))}}}
		r.Images = append(r.Images, i)
	}
	return r
}

// P9.1: 16384 bytes, and not one more; the length is not cut off to two bytes.
func TestMostBytes(t *testing.T) {
	for _, of := range []func(size int) api.Record{checkOf, shapeOf} {
		for _, size := range []int{16000, 16381, 16382, 16383, 16384, 16385, 16386, 16387, 16400, 20000, 32768, 40000, 65535, 65536, 65537, 65600, 70000} {
			r := of(size)
			raw := rawBytes(r)
			if len(raw) != size || !right(r) {
				t.Fatalf("a record of %d bytes, not of %d: not a test", len(raw), size)
			}
			if len(raw) > 16384 {
				asks(t, r, nil)
			} else {
				asks(t, r, raw)
			}
		}
	}
}

// P9.1: one that is far too long is told to be none, and nothing more.
func TestHuge(t *testing.T) {
	asks(t, check(lives(1, 1<<17), nil, 1), nil)
	asks(t, check(nil, dirties(1, 1<<17), 1), nil)
	asks(t, did(0, put(0, string(long('a', 1<<20)))), nil)
	var r api.Record
	r.Kind = recShape
	for n := range 1 << 12 {
		r.Images = append(r.Images, image(uint32(n+1), heapKind, cell("abc")))
	}
	asks(t, r, nil)
}
