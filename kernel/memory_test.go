package kernel

import (
	"fmt"
	"slices"
	"testing"

	"cadastre/api"
)

// The spoilt are overwritten whole, up to the end of their memory.
func spoilData(b []byte) {
	for i := range b[:cap(b)] {
		b[:cap(b)][i] ^= 0x55
	}
}

func spoilNumbers(l []uint32) {
	for i := range l[:cap(l)] {
		l[:cap(l)][i] = 3
	}
}

func spoilPage(p api.Page) {
	cells := p.Cells[:cap(p.Cells)]
	for i := range cells {
		spoilData(cells[i].Data)
		cells[i] = dead(77, "spoilt")
	}
}

// roomy are lists that are alike, with memory behind them that is not theirs.
func roomyBytes(b []byte) []byte {
	b = append(make([]byte, 0, len(b)+3), b...)
	copy(b[len(b):cap(b)], "end")
	return b
}

func roomyCall(c call) call {
	if c.op.Data != nil {
		c.op.Data = roomyBytes(c.op.Data)
	}
	if c.images != nil {
		images := make([]api.Image, 0, len(c.images)+2)
		for _, i := range c.images {
			cells := make([]api.Cell, 0, len(i.To.Cells)+2)
			for _, x := range i.To.Cells {
				x.Data = roomyBytes(x.Data)
				cells = append(cells, x)
			}
			cells[:cap(cells)][len(cells)] = cell("behind")
			i.To.Cells = cells
			images = append(images, i)
		}
		images[:cap(images)][len(images)] = image(99, heap(cell("behind")))
		c.images = images
	}
	if c.pages != nil {
		c.pages = append(make([]uint32, 0, len(c.pages)+2), c.pages...)
		c.pages[:cap(c.pages)][len(c.pages)] = 99
	}
	return c
}

// whole is all that was handed in, what lies behind its lists too.
func whole(c call) string {
	s := fmt.Sprintf("%v %q %v", c.op, c.op.Data[:cap(c.op.Data)], c.pages[:cap(c.pages)])
	for _, i := range c.images[:cap(c.images)] {
		s += fmt.Sprint(i.Page, i.To.LSN, i.To.Kind, i.To.Next, len(i.To.Cells))
		for _, x := range i.To.Cells[:cap(i.To.Cells)] {
			s += fmt.Sprintf("%v %d %q", x.Used, x.Killer, x.Data[:cap(x.Data)])
		}
	}
	return s
}

func spoilCall(c call) {
	spoilData(c.op.Data)
	spoilNumbers(c.pages)
	for i := range c.images[:cap(c.images)] {
		spoilPage(c.images[:cap(c.images)][i].To)
		c.images[:cap(c.images)][i] = image(2, heap(cell("spoilt")))
	}
}

// P14.10: what is handed in stays, and what lies behind it; it is not kept; what is answered is new memory.
func TestMemory(t *testing.T) {
	for seed := range 60 {
		w := wild{pick: picker(uint64(90000 + seed)), long: true}
		x := standOf(t, leastLog, 8+w.pick(10), leastFrames)
		w.m = x.m
		what := func() string { return fmt.Sprint("seed ", seed) }
		x.ask(t, call{kind: 's', images: plots()}, api.OK)
		for range 200 {
			c := w.call()
			handed := roomyCall(c)
			was := whole(handed)
			want, got := x.m.call(c), x.k.call(handed)
			if !got.same(want) {
				t.Fatalf("%s: %v answers %+v, want %+v", what(), c, got, want)
			}
			if whole(handed) != was {
				t.Fatalf("%s: %v has changed what was handed in", what(), c)
			}
			spoilCall(handed)
			spoilNumbers(got.pages)
			number := uint32(1 + w.pick(x.k.Pages()))
			p, e := x.k.Read(number)
			is(t, "Read", e, api.OK)
			q, e := x.k.Read(number)
			is(t, "Read", e, api.OK)
			first, again := x.k.Lives(), x.k.Lives()
			spoilPage(p)
			spoilNumbers(first)
			if !alike(q, x.m.pages[number]) || !slices.Equal(again, x.m.lives()) {
				t.Fatalf("%s: two answers share memory", what())
			}
			spoilPage(q)
			spoilNumbers(again)
			agrees(t, func() string { return fmt.Sprintf("%s behind %v", what(), c) }, x.k, x.m, true)
		}
		agreesInLog(t, what, x.d, x.k, x.m)
	}
}

// P14.10: a page's cells share nothing with one another, nor does a page with another one that was handed in with the same memory.
func TestMemoryShared(t *testing.T) {
	x := newStand(t)
	cells := []api.Cell{cell("a"), cell("b")}
	shapes(t, x.k, image(1, heap(cells...)), image(2, heap(cells...)))
	op := put(2, "c")
	does(t, x.k, 1, 1, op)
	does(t, x.k, 2, 2, op)
	spoilData(op.Data)
	p, e := x.k.Read(1)
	is(t, "Read", e, api.OK)
	spoilData(p.Cells[0].Data)
	spoilData(p.Cells[2].Data)
	if string(p.Cells[1].Data) != "b" {
		t.Fatal("two cells share memory")
	}
	is(t, "Back", x.k.Back(1, 0), api.OK)
	reads(t, x.k, 1, heap(cell("a"), cell("b")))
	reads(t, x.k, 2, heap(cell("a"), cell("b"), cell("c")))
	if x.k.Log() != x.k.Log() {
		t.Fatal("Log tells two logs")
	}
}
