package pool

import (
	"bytes"
	"slices"
	"testing"

	"cadastre/api"
)

// spread is a page that is alike, with other cells and bytes behind the lengths of its lists, in the same memory.
func spread(p api.Page, behind byte) api.Page {
	p.Cells = append(slices.Clone(p.Cells), slices.Repeat([]api.Cell{{Used: true, Killer: uint32(behind), Data: []byte("behind")}}, 5)...)[:len(p.Cells)]
	for i := range p.Cells {
		b := p.Cells[i].Data
		p.Cells[i].Data = append(bytes.Clone(b), bytes.Repeat([]byte{behind}, 16)...)[:len(b)]
	}
	return p
}

// whole is a page with all that lies behind its lists' lengths, written out.
func whole(p api.Page) []byte {
	b := written(p)
	for _, c := range p.Cells[:cap(p.Cells)] {
		b = append(b, byte(c.Killer), byte(len(c.Data)), byte(cap(c.Data)))
		b = append(b, c.Data[:cap(c.Data)]...)
	}
	return b
}

// spoilData changes bytes, up to the end of the memory that they have.
func spoilData(b []byte) {
	b = b[:cap(b)]
	for i := range b {
		b[i] ^= 0xA5
	}
}

// spoil changes all the memory that a page has.
func spoil(p api.Page) {
	cells := p.Cells[:cap(p.Cells)]
	for i := range cells {
		spoilData(cells[i].Data)
		cells[i] = api.Cell{Used: !cells[i].Used, Killer: cells[i].Killer + 77}
	}
}

// P11.5: what is handed to Put is not changed, nor kept, nor what lies behind its length.
func TestPutMemory(t *testing.T) {
	for _, p := range manyPages() {
		for _, behind := range []byte{0, 0xAA} {
			x := holding(t, 8, noise(1, size), written(heap(4)))
			handed := spread(p, behind)
			before := whole(handed)
			x.puts(t, 1, handed)
			x.puts(t, 2, handed)
			if !bytes.Equal(whole(handed), before) {
				t.Fatalf("Put changed what it was handed: %+v", p)
			}
			spoil(handed)
			x.gets(t, 1, p)
			is(t, "FlushAll", x.p.FlushAll(), api.OK)
			x.lasts(t, 1, written(p))
			x.lasts(t, 2, written(p))
			x.gets(t, 2, p)
		}
	}
}

// P11.5: what Put refuses is not changed either.
func TestPutWrongMemory(t *testing.T) {
	x := holding(t, 8, written(heap(4)))
	for _, p := range wrongPages() {
		if len(p.Cells) > 3 {
			continue // it has more bytes than a page
		}
		handed := spread(p, 0xAA)
		before := slices.Clone(handed.Cells[:cap(handed.Cells)])
		x.putsNot(t, 1, handed, api.ErrForm)
		if !slices.EqualFunc(before, handed.Cells[:cap(handed.Cells)], func(a, b api.Cell) bool {
			return alike(api.Page{Cells: []api.Cell{a}}, api.Page{Cells: []api.Cell{b}})
		}) {
			t.Fatalf("Put changed what it was handed: %+v", p)
		}
	}
}

// P11.5: what Get answers is new memory: neither the pool, nor the disk, nor an earlier answer has it; read or put.
func TestGetMemory(t *testing.T) {
	for _, p := range manyPages() {
		x := holding(t, 8, written(p), written(heap(4)))
		x.puts(t, 2, p)
		var earlier []api.Page
		for range 4 {
			for _, number := range []uint32{1, 2} {
				got, e := x.p.Get(number)
				is(t, "Get", e, api.OK)
				if !alike(got, p) {
					t.Fatalf("Get(%d): %+v, want %+v", number, got, p)
				}
				for _, other := range earlier {
					if !alike(other, p) {
						t.Fatalf("an answer has changed: %+v, was %+v", other, p)
					}
				}
				again, e := x.p.Get(number)
				is(t, "Get", e, api.OK)
				earlier = append(earlier, again)
				spoil(got)
			}
		}
		is(t, "FlushAll", x.p.FlushAll(), api.OK)
		x.lasts(t, 1, written(p))
		x.lasts(t, 2, written(p))
	}
}

// P11.5: the lists of one answer share no memory, that behind their length aside.
func TestCellsMemory(t *testing.T) {
	for _, p := range manyPages() {
		x := holding(t, 8, written(p), written(heap(4)))
		x.puts(t, 2, p)
		for _, number := range []uint32{1, 1, 2} {
			for i := range p.Cells {
				got, e := x.p.Get(number)
				is(t, "Get", e, api.OK)
				spoilData(got.Cells[i].Data)
				got.Cells[i].Data = p.Cells[i].Data
				if !alike(got, p) {
					t.Fatalf("cell %d of %+v shares memory", i, p)
				}
			}
		}
	}
}

// P11.5: what Dirty answers is new memory.
func TestDirtyMemory(t *testing.T) {
	x := holding(t, 8, written(heap(4)), written(heap(4)), written(heap(4)))
	x.puts(t, 3, heap(30))
	x.puts(t, 1, heap(10))
	want := []api.Dirty{{Page: 1, From: 10}, {Page: 3, From: 30}}
	got := x.p.Dirty()
	got = append(got[:cap(got)], api.Dirty{Page: 99})
	for i := range got {
		got[i] = api.Dirty{Page: 77, From: 77}
	}
	x.dirties(t, want...)
	kept := x.p.Dirty()
	x.puts(t, 2, heap(20))
	if !slices.Equal(kept, want) {
		t.Fatalf("an answer has changed: %v", kept)
	}
	x.dirties(t, api.Dirty{Page: 1, From: 10}, api.Dirty{Page: 2, From: 20}, api.Dirty{Page: 3, From: 30})
}

// P1: what a pool answers hangs on its own disk alone: two pools side by side do not meet.
func TestTwoPools(t *testing.T) {
	x, y := placeOf(t, 16, 20, 8), placeOf(t, 20, 30, 9)
	was := [2]map[uint32]api.Page{{}, {}}
	pick := picker(5)
	for i := range uint64(2000) {
		for k, z := range []place{x, y} {
			number := uint32(1 + pick(20))
			if pick(2) == 0 {
				z.gets(t, number, was[k][number])
				continue
			}
			was[k][number] = someOf(2*i+uint64(k), 0)
			z.puts(t, number, was[k][number])
		}
	}
	is(t, "FlushAll", x.p.FlushAll(), api.OK)
	if len(y.p.Dirty()) == 0 {
		t.Fatal("the other pool was flushed, too")
	}
	y.d.Cut()
	for number := range uint32(20) {
		x.gets(t, number+1, was[0][number+1])
	}
}

// P1: a pool whose disk was cut, or that was answered ErrDark, is to be thrown away; and yet its calls end, and none panics.
func TestThrownAway(t *testing.T) {
	for seed := range uint64(200) {
		pick := picker(seed)
		x := placeOf(t, 16, 12, 8)
		for i := range uint64(200) {
			number := uint32(pick(14))
			switch pick(12) {
			case 0:
				x.d.Trip(pick(6))
			case 1:
				x.d.Cut(pick(2) == 0, pick(2) == 0)
			case 2:
				x.p.FlushAll()
			case 3:
				x.d.Write(17+pick(12), noise(i, size))
			case 4, 5:
				x.l.Append(api.Record{Kind: api.RecBegin, Txn: 1})
			case 6:
				x.l.Reset(1)
			case 7, 8, 9:
				x.p.Put(number, someOf(i, x.l.End()-1))
			default:
				x.p.Get(number)
			}
			if got := x.p.Dirty(); len(got) > 12 || x.p.Pages() != 12 || len(x.framed(t)) > 8 {
				t.Fatalf("Dirty %v, Pages %d, in frames %v", got, x.p.Pages(), x.framed(t))
			}
		}
	}
}
