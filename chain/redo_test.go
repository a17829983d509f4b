package chain

import (
	"math"
	"slices"
	"strings"
	"testing"

	"cadastre/api"
)

// P13.3: pages that may not be handed in: their numbers don't rise strictly, one is 0, one neither may be nor is the zero page.
func TestRedoWrongPages(t *testing.T) {
	heap, leaf := pageOf(heapKind, 3, cell("a")), pageOf(leafKind, 4, cell("a"), cell("b"))
	wrong := func(pages ...api.Image) {
		t.Helper()
		redoesNot(t, pages, nil, 0, errArg)
		redoesNot(t, pages, example(), 0, errArg)
		redoesNot(t, pages, example(), math.MaxUint64, errArg)
		// It comes ahead of what is wrong with the records.
		for _, records := range wrongs() {
			redoesNot(t, pages, records, 0, errArg)
		}
	}
	wrong(image(0, heap))
	wrong(image(0, api.Page{}), image(1, heap))
	wrong(image(2, heap), image(0, heap))
	wrong(image(2, heap), image(2, heap))
	wrong(image(2, heap), image(3, leaf), image(3, leaf))
	wrong(image(2, heap), image(1, leaf), image(3, leaf))
	wrong(image(greatest, heap), image(1, heap))
	for _, p := range []api.Page{
		{LSN: 1}, {Next: 1}, {Cells: []api.Cell{unused}}, {Cells: []api.Cell{cell("a")}}, {Kind: 4}, {Kind: -1}, {Kind: 1 << 32},
		pageOf(heapKind, 0, unused), pageOf(heapKind, 0, cell("")), pageOf(heapKind, 0, cell(strings.Repeat("a", 181))), pageOf(leafKind, 0, cell("b"), cell("a")), pageOf(leafKind, 0, unused, cell("a")),
		pageOf(innerKind, 0, cell("a")), pageOf(innerKind, 0, dead("a\x01\x00\x00\x00", 1)), pageOf(heapKind, 0, slices.Repeat([]api.Cell{cell("a")}, 61)...), pageOf(heapKind, 0, slices.Repeat([]api.Cell{cell(strings.Repeat("a", 160))}, 3)...),
	} {
		wrong(image(1, p))
		wrong(image(1, heap), image(2, leaf), image(3, p))
		wrong(image(1, p), image(2, heap))
	}
}

// P13.3: pages that may be, and the zero page, come back as they are where no record is.
func TestRedoNothing(t *testing.T) {
	pages := []api.Image{
		image(1, api.Page{}), image(2, api.Page{Cells: []api.Cell{}}), image(3, pageOf(heapKind, 0)), image(4, pageOf(heapKind, math.MaxUint64, unused, dead("a", 7))), image(5, pageOf(leafKind, 9, cell("a"), dead("b", 3))),
		image(6, pageOf(innerKind, 8, cell("a\x01\x00\x00\x00"), cell("b\x00\x00\x00\x00"))), image(900, api.Page{Kind: heapKind, LSN: 4, Next: 77, Cells: slices.Repeat([]api.Cell{unused, cell("a")}, 30)}), image(greatest, api.Page{Kind: leafKind, Next: greatest}),
	}
	redoes(t, nil, nil, 0)
	redoes(t, pages[:0], example(), 100)
	redoes(t, pages, nil, 0, pages...)
	redoes(t, pages, []api.Record{}, math.MaxUint64, pages...)
	others := []api.Record{began(1, 1), committed(5, 1, 1), aborted(6, 9, 9), gone(8, 7, 7), checked(9, []api.Live{lost(1, 1, 1)}, []api.Dirty{{Page: 66, From: 1}}, 5)}
	redoes(t, pages, others, 0, pages...)
	redoes(t, nil, others, 0)
	// All records lie ahead.
	redoes(t, pages, append(example(), shaped(40, image(66, pageOf(heapKind, 0)))), 41, pages...)
	redoes(t, nil, example(), 7)
}

// P13.3: records that are not right; that comes ahead of pages that are missing, and of what can't be done.
func TestRedoWrongRecords(t *testing.T) {
	for _, records := range wrongs() {
		redoesNot(t, nil, records, 0, errForm)
		redoesNot(t, []api.Image{image(2, pageOf(heapKind, 0))}, records, 0, errForm)
		redoesNot(t, nil, records, math.MaxUint64, errForm)
		redoesNot(t, nil, append([]api.Record{did(1, 1, 0, 66, put(0, "a"))}, records...), 0, errForm)
		redoesNot(t, nil, append(slices.Clip(records), did(1000, 1, 0, 66, put(0, "a"))), 0, errForm)
	}
	redoesNot(t, nil, []api.Record{did(1, 1, 0, 66, put(0, "a")), began(3, 1), began(3, 2)}, 0, errForm)
}

// P13.3: what a Do, an Undo makes of a page, and its LSN; whether the records are as Analyse wants them plays no part.
func TestRedoDo(t *testing.T) {
	heap := image(2, api.Page{Kind: heapKind, LSN: 4, Next: 9, Cells: []api.Cell{cell("a"), unused, dead("c", 5)}})
	leaf := image(7, api.Page{Kind: leafKind, LSN: 6, Next: 8, Cells: []api.Cell{cell("b"), dead("d", 4)}})
	become := func(i api.Image, lsn uint64, cells ...api.Cell) api.Image {
		i.To.LSN, i.To.Cells = lsn, cells
		return i
	}
	for _, c := range []struct {
		r          api.Record
		heap, leaf api.Image
	}{
		{did(50, 1, 0, 2, put(1, "b")), become(heap, 50, cell("a"), cell("b"), dead("c", 5)), leaf},
		{did(50, 1, 0, 2, put(3, "b")), become(heap, 50, cell("a"), unused, dead("c", 5), cell("b")), leaf},
		{did(50, 1, 77, 2, kill(0, 3)), become(heap, 50, dead("a", 3), unused, dead("c", 5)), leaf},
		{undid(50, 1, 8, 3, 2, wake(2)), become(heap, 50, cell("a"), unused, cell("c")), leaf},
		{undid(50, 1, 8, 3, 2, free(2)), become(heap, 50, cell("a")), leaf},
		{inTree(did(50, 1, 0, 7, putOf("c")), 7), heap, become(leaf, 50, cell("b"), cell("c"), dead("d", 4))},
		{inTree(did(50, 1, 0, 7, killOf("b", 9)), 70), heap, become(leaf, 50, dead("b", 9), dead("d", 4))},
		{inTree(undid(50, 1, 8, 3, 7, api.Op{Kind: opWake, Data: []byte("d")}), 3), heap, become(leaf, 50, cell("b"), cell("d"))},
		{inTree(undid(50, 1, 8, 3, 7, freeOf("b")), 3), heap, become(leaf, 50, dead("d", 4))},
		// A Put at the place 0 is one that a leaf has too, and the Root is not asked.
		{did(50, 1, 0, 7, put(0, "c")), heap, become(leaf, 50, cell("b"), cell("c"), dead("d", 4))},
	} {
		pages := []api.Image{heap, leaf}
		redoes(t, pages, []api.Record{c.r}, 0, c.heap, c.leaf)
		redoes(t, pages, []api.Record{c.r}, 50, c.heap, c.leaf)
		redoes(t, pages, []api.Record{c.r}, 51, heap, leaf)
		for _, lsn := range []uint64{49, 50, 51, math.MaxUint64} {
			older := []api.Image{heap, leaf}
			older[0].To.LSN, older[1].To.LSN = lsn, lsn
			want := slices.Clone(older)
			if lsn == 49 {
				want[0].To.Cells, want[1].To.Cells = c.heap.To.Cells, c.leaf.To.Cells
				if c.r.Page == 2 {
					want[0].To.LSN = 50
				} else {
					want[1].To.LSN = 50
				}
			}
			redoes(t, older, []api.Record{c.r}, 0, want...)
		}
	}
}

// P13.3: what can't be done is ErrForm, unless the page has it behind it already, or the record lies ahead of from.
func TestRedoCannot(t *testing.T) {
	full := pageOf(heapKind, 4, slices.Repeat([]api.Cell{cell("a")}, 60)...)
	for _, c := range []struct {
		p api.Page
		r api.Record
	}{
		{pageOf(heapKind, 4, cell("a")), did(50, 1, 0, 2, put(0, "b"))},
		{pageOf(heapKind, 4, cell("a")), did(50, 1, 0, 2, put(2, "b"))},
		{pageOf(heapKind, 4, cell("a")), did(50, 1, 0, 2, kill(1, 3))},
		{pageOf(heapKind, 4, dead("a", 2)), did(50, 1, 0, 2, kill(0, 3))},
		{pageOf(heapKind, 4, cell("a")), undid(50, 1, 8, 0, 2, wake(0))},
		{pageOf(heapKind, 4, cell("a")), undid(50, 1, 8, 0, 2, free(1))},
		{full, did(50, 1, 0, 2, put(59, "b"))},
		{full, did(50, 1, 0, 2, put(1, "b"))},
		{pageOf(heapKind, 4, cell("a")), inTree(did(50, 1, 0, 2, killOf("a", 3)), 2)},
		{pageOf(leafKind, 4, cell("a")), did(50, 1, 0, 2, put(1, "b"))},
		{pageOf(leafKind, 4, cell("a")), did(50, 1, 0, 2, kill(0, 3))},
		{pageOf(leafKind, 4, cell("a")), inTree(did(50, 1, 0, 2, putOf("a")), 2)},
		{pageOf(leafKind, 4, cell("a")), inTree(undid(50, 1, 8, 0, 2, freeOf("b")), 2)},
		{pageOf(innerKind, 4, cell("a\x01\x00\x00\x00")), inTree(did(50, 1, 0, 2, putOf("a")), 2)},
		{api.Page{}, did(50, 1, 0, 2, put(0, "b"))},
		{api.Page{}, inTree(did(50, 1, 0, 2, putOf("b")), 2)},
	} {
		pages := []api.Image{image(1, pageOf(heapKind, 0)), image(2, c.p)}
		redoesNot(t, pages, []api.Record{c.r}, 0, errForm)
		redoesNot(t, pages, []api.Record{c.r}, 50, errForm)
		redoesNot(t, pages, []api.Record{did(40, 1, 0, 1, put(0, "x")), c.r, did(60, 1, 0, 66, put(0, "x"))}, 0, errForm)
		redoesNot(t, pages, []api.Record{did(40, 1, 0, 66, put(0, "x")), c.r}, 0, errNone)
		redoes(t, pages, []api.Record{c.r}, 51, pages...)
		if c.p.Kind != 0 {
			pages[1].To.LSN = 50
			redoes(t, pages, []api.Record{c.r}, 0, pages...)
		}
	}
}

// P13.3: of a Shape image by image: the page is it, whatever it was, the zero page too, unless it has it behind it.
func TestRedoShape(t *testing.T) {
	old := pageOf(heapKind, 20, cell("a"))
	leaf := api.Page{Kind: leafKind, Next: 7, Cells: []api.Cell{cell("b"), dead("c", 9)}}
	inner := api.Page{Kind: innerKind, Cells: []api.Cell{cell("b\x00\x00\x00\x01")}}
	heap := api.Page{Kind: heapKind, Cells: []api.Cell{unused, dead("c", 9)}}
	at := func(p api.Page, lsn uint64) api.Page {
		p.LSN = lsn
		return p
	}
	pages := []api.Image{image(1, api.Page{}), image(3, old), image(4, at(heap, 29)), image(5, at(old, 30)), image(6, at(old, 31)), image(8, old)}
	r := shaped(30, image(1, leaf), image(3, inner), image(4, leaf), image(5, leaf), image(6, leaf))
	want := []api.Image{image(1, at(leaf, 30)), image(3, at(inner, 30)), image(4, at(leaf, 30)), pages[3], pages[4], pages[5]}
	redoes(t, pages, []api.Record{r}, 0, want...)
	redoes(t, pages, []api.Record{r}, 30, want...)
	redoes(t, pages, []api.Record{r}, 31, pages...)
	redoes(t, want, []api.Record{r}, 0, want...)
	// What stands behind goes on from it.
	want[0] = image(1, at(api.Page{Kind: leafKind, Next: 7, Cells: []api.Cell{dead("c", 9)}}, 35))
	want[5] = image(8, at(heap, 36))
	redoes(t, pages, []api.Record{r, inTree(undid(35, 1, 8, 0, 1, freeOf("b")), 1), shaped(36, image(8, heap))}, 0, want...)
	// An image's page that is missing, wherever it stands, also where no other one of the record's is behind.
	for i := range r.Images {
		fewer := slices.DeleteFunc(slices.Clone(pages), func(p api.Image) bool { return p.Page == r.Images[i].Page })
		redoesNot(t, fewer, []api.Record{r}, 0, errNone)
		redoes(t, fewer, []api.Record{r}, 31, fewer...)
	}
	redoesNot(t, nil, []api.Record{r}, 30, errNone)
	redoesNot(t, []api.Image{image(1, at(old, 99))}, []api.Record{shaped(30, image(1, leaf), image(2, leaf))}, 0, errNone)
}

// P13.3: the first record that can't be repeated says which error it is; those ahead of from say nothing.
func TestRedoFirstError(t *testing.T) {
	pages := []api.Image{image(2, pageOf(heapKind, 0)), image(4, pageOf(heapKind, 0))}
	ok, none, form := did(10, 1, 0, 2, put(0, "a")), did(20, 1, 0, 3, put(0, "a")), did(30, 1, 0, 4, put(5, "a"))
	late := did(40, 1, 0, 4, put(0, "z"))
	redoesNot(t, pages, []api.Record{ok, none, form}, 0, errNone)
	redoesNot(t, pages, []api.Record{ok, none, form}, 20, errNone)
	redoesNot(t, pages, []api.Record{ok, none, form}, 21, errForm)
	redoesNot(t, pages, []api.Record{ok, none, form}, 30, errForm)
	redoes(t, pages, []api.Record{ok, none, form, late}, 31, pages[0], image(4, pageOf(heapKind, 40, cell("z"))))
	form.LSN = 15
	redoesNot(t, pages, []api.Record{ok, form, none}, 0, errForm)
	redoesNot(t, pages, []api.Record{ok, form, none}, 16, errNone)
	// A page whose number is none of them, though it lies between them; and one that has all behind it.
	redoesNot(t, pages, []api.Record{did(10, 1, 0, 1, put(0, "a"))}, 0, errNone)
	redoesNot(t, pages, []api.Record{did(10, 1, 0, 5, put(0, "a"))}, 0, errNone)
	redoesNot(t, pages, []api.Record{did(10, 1, 0, greatest, put(0, "a"))}, 0, errNone)
	redoesNot(t, pages, []api.Record{undid(10, 1, 0, 0, 3, free(0))}, 0, errNone)
}

// P13.3: all short logs on a few pages, each asked from each place on.
func TestRedoAllShort(t *testing.T) {
	t.Parallel()
	sets := [][]api.Image{
		{image(1, pageOf(heapKind, 0)), image(2, pageOf(leafKind, 0))},
		{image(1, pageOf(heapKind, 10, cell("a"))), image(2, pageOf(leafKind, 20, cell("a")))},
		{image(1, api.Page{}), image(2, api.Page{}), image(3, pageOf(heapKind, 30))},
		{image(2, pageOf(leafKind, 15, cell("a"), dead("b", 1)))},
	}
	letters := []func(lsn uint64) api.Record{
		func(lsn uint64) api.Record { return did(lsn, 1, 0, 1, put(0, "a")) },
		func(lsn uint64) api.Record { return did(lsn, 1, 0, 1, put(1, "b")) },
		func(lsn uint64) api.Record { return did(lsn, 1, 0, 1, kill(0, 1)) },
		func(lsn uint64) api.Record { return undid(lsn, 1, 0, 0, 1, wake(0)) },
		func(lsn uint64) api.Record { return undid(lsn, 1, 0, 0, 1, free(0)) },
		func(lsn uint64) api.Record { return inTree(did(lsn, 1, 0, 2, putOf("a")), 2) },
		func(lsn uint64) api.Record { return inTree(did(lsn, 1, 0, 2, killOf("a", 1)), 2) },
		func(lsn uint64) api.Record { return inTree(undid(lsn, 1, 0, 0, 2, freeOf("a")), 2) },
		func(lsn uint64) api.Record { return shaped(lsn, image(1, pageOf(heapKind, 0, cell("s")))) },
		func(lsn uint64) api.Record {
			return shaped(lsn, image(1, pageOf(heapKind, 0)), image(2, pageOf(leafKind, 0)))
		},
		func(lsn uint64) api.Record {
			return shaped(lsn, image(2, pageOf(heapKind, 0)), image(3, pageOf(leafKind, 0)))
		},
		func(lsn uint64) api.Record { return began(lsn, 1) },
	}
	errors := map[api.Errno]int{}
	var ask func(records []api.Record)
	ask = func(records []api.Record) {
		for _, pages := range sets {
			for from := uint64(0); from <= 10*uint64(len(records)); from += 5 {
				errors[redoesWords(t, pages, records, from)]++
			}
		}
		if len(records) == 3 {
			return
		}
		for _, letter := range letters {
			ask(append(slices.Clip(records), letter(10*uint64(len(records)+1))))
		}
	}
	ask(nil)
	for _, e := range []api.Errno{api.OK, errForm, errNone} {
		if errors[e] < 5000 {
			t.Errorf("%d times %d: not a test", errors[e], int(e))
		}
	}
}

// P13.3: as many pages as a disk has, and many records.
func TestRedoMany(t *testing.T) {
	var pages, want []api.Image
	var records []api.Record
	for number := uint32(1); number <= 8192; number++ {
		pages = append(pages, image(number, pageOf(heapKind, 0)))
		want = append(want, image(number, pageOf(heapKind, uint64(20000+number), cell("a"), cell("b"))))
	}
	for round, data := range []string{"a", "b"} {
		for number := uint32(1); number <= 8192; number++ {
			records = append(records, did(uint64(10000*(round+1))+uint64(number), 1, 0, number, put(round, data)))
		}
	}
	redoes(t, pages, records, 0, want...)
}
