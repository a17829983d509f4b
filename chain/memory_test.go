package chain

import (
	"slices"
	"testing"

	"cadastre/api"
)

// The spoilt are overwritten whole, up to the end of their memory.
func spoilData(b []byte) {
	for i := range b[:cap(b)] {
		b[:cap(b)][i] ^= 0x55
	}
}

func spoilImages(l []api.Image) {
	l = l[:cap(l)]
	for i := range l {
		cells := l[i].To.Cells[:cap(l[i].To.Cells)]
		for k := range cells {
			spoilData(cells[k].Data)
			cells[k] = cell("spoilt")
		}
		l[i] = image(77, pageOf(77, 77, cell("spoilt")))
	}
}

func spoilRecords(l []api.Record) {
	for i := range l[:cap(l)] {
		r := &l[:cap(l)][i]
		spoilData(r.Op.Data)
		spoilImages(r.Images)
		for k := range r.Lives[:cap(r.Lives)] {
			r.Lives[:cap(r.Lives)][k] = lost(77, 77, 77)
		}
		for k := range r.Dirty[:cap(r.Dirty)] {
			r.Dirty[:cap(r.Dirty)][k] = api.Dirty{Page: 77, From: 77}
		}
		*r = api.Record{Kind: 77, LSN: 77}
	}
}

// roomy are lists that are alike, with memory behind them that is not theirs.
func roomyBytes(b []byte) []byte { return append(make([]byte, 0, len(b)+3), b...) }

func roomyImages(l []api.Image) []api.Image {
	all := make([]api.Image, 0, len(l)+2)
	for _, i := range l {
		cells := make([]api.Cell, 0, len(i.To.Cells)+2)
		for _, c := range i.To.Cells {
			c.Data = roomyBytes(c.Data)
			cells = append(cells, c)
		}
		cells[:cap(cells)][len(cells)] = cell("behind")
		i.To.Cells = cells
		all = append(all, i)
	}
	all[:cap(all)][len(all)] = image(5, pageOf(heapKind, 9, cell("behind")))
	return all
}

func roomyRecords(l []api.Record) []api.Record {
	all := make([]api.Record, 0, len(l)+2)
	for _, r := range l {
		if len(r.Op.Data) > 0 {
			r.Op.Data = roomyBytes(r.Op.Data)
		}
		if len(r.Images) > 0 {
			r.Images = roomyImages(r.Images)
		}
		r.Lives = append(make([]api.Live, 0, len(r.Lives)+2), r.Lives...)
		r.Dirty = append(make([]api.Dirty, 0, len(r.Dirty)+2), r.Dirty...)
		all = append(all, r)
	}
	all[:cap(all)][len(all)] = began(3, 3)
	return all
}

// behind is what stands in lists' memory behind their length.
func behind(records []api.Record, pages []api.Image) []any {
	var all []any
	images := func(l []api.Image) {
		for _, i := range l[:cap(l)][len(l):] {
			all = append(all, i.Page, i.To.Kind, i.To.LSN, len(i.To.Cells))
		}
		for _, i := range l {
			for _, c := range i.To.Cells[:cap(i.To.Cells)][len(i.To.Cells):] {
				all = append(all, c.Used, c.Killer, string(c.Data))
			}
			for _, c := range i.To.Cells {
				all = append(all, string(c.Data[:cap(c.Data)]))
			}
		}
	}
	for _, r := range records[:cap(records)] {
		all = append(all, r.Kind, r.LSN, r.Txn, string(r.Op.Data[:cap(r.Op.Data)]))
		for _, l := range r.Lives[:cap(r.Lives)] {
			all = append(all, l)
		}
		for _, d := range r.Dirty[:cap(r.Dirty)] {
			all = append(all, d)
		}
		images(r.Images)
	}
	images(pages)
	return all
}

// P13.4: whatever is called, what is handed in stays, and what lies behind its length; what is answered shares nothing
// with it, nor with another answer, and no part of it with another one.
func TestMemory(t *testing.T) {
	for seed := range 200 {
		l := lived(uint64(5000+seed), 1+seed%5, 60)
		if len(l.records) == 0 {
			continue
		}
		records := roomyRecords(l.records)
		version := func(all []api.Page) int { return l.pick(len(all)) }
		if seed%2 == 0 {
			version = oldest
		}
		pages := roomyImages(l.pages(version))
		was, wasPages, wasBehind := twinRecords(records), twinImages(pages), behind(records, pages)
		check := uint64(0)
		for _, r := range records {
			if r.Kind == recCheck {
				check = r.LSN
			}
		}
		from := uint64(l.pick(int(l.lsn)))
		first, again := analyse(records, check), analyse(records, check)
		want := answer{slices.Clone(first.lives), slices.Clone(first.dirty), first.next, first.e}
		redo, e := Redo(pages, records, from)
		redoAgain, eAgain := Redo(pages, records, from)
		wantRedo := twinImages(redo)
		From(first.dirty)
		Next(first.lives)
		if !slices.EqualFunc(records, was, sameRecord) || !sameImages(pages, wasPages) || !slices.Equal(behind(records, pages), wasBehind) {
			t.Fatalf("seed %d: what was handed in has changed", seed)
		}
		if !first.same(want) {
			t.Fatalf("seed %d: From, Next have changed %s", seed, first)
		}
		// The first answers are spoilt, part by part, up to the end of their memory: what was handed in stays, and so do the second ones.
		for i := range redo {
			for k := range redo[i].To.Cells {
				spoilData(redo[i].To.Cells[k].Data)
				redo[i].To.Cells[k].Killer = 88
				for j := range redo {
					for m := range redo[j].To.Cells {
						if (j > i || j == i && m > k) && !samePage(pageOf(1, 1, redo[j].To.Cells[m]), pageOf(1, 1, wantRedo[j].To.Cells[m])) {
							t.Fatalf("seed %d: two cells of an answer share memory", seed)
						}
					}
				}
			}
		}
		spoilImages(redo)
		for i := range first.lives[:cap(first.lives)] {
			first.lives[:cap(first.lives)][i] = lost(77, 77, 77)
		}
		for i := range first.dirty[:cap(first.dirty)] {
			first.dirty[:cap(first.dirty)][i] = api.Dirty{Page: 77}
		}
		if !slices.EqualFunc(records, was, sameRecord) || !sameImages(pages, wasPages) || !slices.Equal(behind(records, pages), wasBehind) {
			t.Fatalf("seed %d: an answer shares memory with what was handed in", seed)
		}
		if !again.same(want) || eAgain != e || !sameImages(redoAgain, wantRedo) {
			t.Fatalf("seed %d: an answer shares memory with another one", seed)
		}
		spoilRecords(records)
		spoilImages(pages)
		if !again.same(want) || !sameImages(redoAgain, wantRedo) {
			t.Fatalf("seed %d: an answer has kept what was handed in", seed)
		}
	}
}

// P13.4: an image's cells, an operation's bytes are not the answer's; and one image may be handed in twice.
func TestMemoryShared(t *testing.T) {
	cells := []api.Cell{cell("a"), cell("b")}
	r := shaped(5, image(1, pageOf(heapKind, 0, cells...)), image(2, pageOf(heapKind, 0, cells...)))
	op := put(2, "c")
	pages := []api.Image{image(1, pageOf(heapKind, 1, cells...)), image(2, pageOf(heapKind, 1, cells...)), image(3, pageOf(heapKind, 1, cells...))}
	got, e := Redo(pages, []api.Record{r, did(6, 1, 0, 1, op), did(7, 1, 0, 3, op)}, 0)
	want := []api.Image{image(1, pageOf(heapKind, 6, cell("a"), cell("b"), cell("c"))), image(2, pageOf(heapKind, 5, cell("a"), cell("b"))), image(3, pageOf(heapKind, 7, cell("a"), cell("b"), cell("c")))}
	if e != api.OK || !sameImages(got, want) {
		t.Fatalf("%+v, %d", got, int(e))
	}
	spoilData(cells[0].Data)
	cells[1].Killer = 9
	spoilData(op.Data)
	if !sameImages(got, want) {
		t.Fatalf("the answer has changed: %+v", got)
	}
	got[0].To.Cells[0].Killer = 5
	spoilData(got[0].To.Cells[2].Data)
	if !sameImages(got[1:], want[1:]) {
		t.Fatalf("the answer's parts share memory: %+v", got)
	}
}
