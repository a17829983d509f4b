package pool

import (
	"bytes"
	"fmt"
	"math"
	"slices"
	"strings"
	"testing"

	"cadastre/api"
	"cadastre/disk"
	"cadastre/wal"
)

// The chapter's examples, one by one.
func TestExamples(t *testing.T) {
	x := placeOf(t, 16, 3, 8)
	x.appends(t, 1)
	if p, e := New(x.d, x.l, 7); p != nil || e != api.ErrArg {
		t.Fatalf("New with 7 frames: %v, %d", p, int(e))
	}
	if got := x.p.Pages(); got != 3 {
		t.Fatalf("Pages: %d", got)
	}
	x.getsNot(t, 0, api.ErrRange)
	x.getsNot(t, 4, api.ErrRange)
	x.gets(t, 1, api.Page{})
	x.puts(t, 1, heap(1))
	x.dirties(t, api.Dirty{Page: 1, From: 1})
	if got := x.l.Durable(); got != 1 {
		t.Fatalf("Durable: %d", got)
	}
	is(t, "FlushAll", x.p.FlushAll(), api.OK)
	x.dirties(t)
	if got := x.l.Durable(); got != x.l.End() || got != 5 {
		t.Fatalf("Durable: %d, End %d", got, x.l.End())
	}
	x.putsNot(t, 2, pageOf(innerKind, 1, dead(7, "abcde")), api.ErrForm)
}

// P11.1: how many frames there may be.
func TestFrames(t *testing.T) {
	x := placeOf(t, 16, 3, 8)
	for _, n := range []int{leastFrames, leastFrames + 1, 100, mostFrames - 1, mostFrames} {
		if p, e := New(x.d, x.l, n); p == nil || e != api.OK || p.Pages() != 3 {
			t.Errorf("New with %d frames: %v, %d", n, p, int(e))
		}
	}
	for _, n := range []int{math.MinInt, -1 << 32, -256, -8, -1, 0, 1, leastFrames - 1, mostFrames + 1, 1 << 16, 1<<32 + 8, math.MaxInt} {
		if p, e := New(x.d, x.l, n); p != nil || e != api.ErrArg {
			t.Errorf("New with %d frames: %v, %d", n, p, int(e))
		}
	}
}

// P11.1: disks and logs of which New makes no pool.
func TestNewNone(t *testing.T) {
	x := placeOf(t, 17, 1, 8)
	bare, e := disk.New(18)
	is(t, "disk.New", e, api.OK)
	is(t, "wal.Format", wal.Format(bare, 17), api.OK)
	l, _, e := wal.Open(bare)
	is(t, "wal.Open", e, api.OK)
	small, e := disk.New(5)
	is(t, "disk.New", e, api.OK)
	for i, c := range []struct {
		d *disk.Disk
		l *wal.Log
	}{{nil, x.l}, {x.d, nil}, {nil, nil}, {x.d, new(wal.Log)}, {new(disk.Disk), x.l}, {new(disk.Disk), nil}, {new(disk.Disk), new(wal.Log)}, {bare, l}, {bare, nil}, {small, x.l}, {small, nil}} {
		for _, n := range []int{7, 8, 256, 257} {
			if p, e := New(c.d, c.l, n); p != nil || e != api.ErrArg {
				t.Errorf("case %d with %d frames: %v, %d", i, n, p, int(e))
			}
		}
	}
}

// P11.1: how many pages there are, and which: page p is sector n + p. New does nothing to the disk.
func TestPages(t *testing.T) {
	for _, c := range []struct{ n, pages int }{{16, 1}, {16, 2}, {17, 1}, {40, 300}, {16, 8175}, {8190, 1}, {4000, 4191}} {
		x := placeOf(t, c.n, c.pages, 8)
		x.does(t, "New", api.Counts{}, func() {
			p, e := New(x.d, x.l, 9)
			is(t, "New", e, api.OK)
			if got := p.Pages(); got != c.pages || len(p.Dirty()) != 0 {
				t.Fatalf("%+v: Pages %d, Dirty %v", c, got, p.Dirty())
			}
		})
		last := uint32(c.pages)
		ends := slices.Compact([]uint32{1, last})
		for _, number := range ends {
			is(t, "Write", x.d.Write(c.n+int(number), written(someOf(uint64(number), 9))), api.OK)
			x.gets(t, number, someOf(uint64(number), 9))
			x.puts(t, number, someOf(uint64(number)+5, 0))
		}
		for _, number := range []uint32{0, last + 1, last + 2, last + 8192, 1 << 16, 1<<31 - 1, 1 << 31, math.MaxUint32 - uint32(c.n), math.MaxUint32 - 1, math.MaxUint32} {
			x.does(t, "a page that there is not", api.Counts{}, func() {
				x.getsNot(t, number, api.ErrRange)
				x.putsNot(t, number, heap(0), api.ErrRange)
				x.putsNot(t, number, api.Page{}, api.ErrRange)
				x.putsNot(t, number, api.Page{Kind: 9}, api.ErrRange)
			})
		}
		is(t, "FlushAll", x.p.FlushAll(), api.OK)
		for _, number := range ends {
			x.lasts(t, int(number), written(someOf(uint64(number)+5, 0)))
		}
	}
}

// manyPages are pages of each kind that may be, and the zero page.
func manyPages() []api.Page {
	all := []api.Page{{}, heap(0), heap(1), {Kind: leafKind}, {Kind: innerKind}, {Kind: heapKind, LSN: math.MaxUint64, Next: math.MaxUint32}, {Kind: heapKind, Cells: []api.Cell{}},
		pageOf(heapKind, 5, cell("a"), api.Cell{}, dead(3, "bb"), cell(strings.Repeat("x", 180))), pageOf(leafKind, 5, cell("b"), dead(math.MaxUint32, "d"), cell("f")), pageOf(innerKind, 5, cell("a...."), cell("b....")),
		pageOf(heapKind, 5, cell(strings.Repeat("y", 180)), cell(strings.Repeat("z", 180)), cell(strings.Repeat("w", 116)))}
	for seed := range uint64(60) {
		all = append(all, someOf(seed, seed))
	}
	return all
}

// P11.2: Get tells what the sector has: the zero page of noughts, else the page.
func TestGetSector(t *testing.T) {
	for _, p := range manyPages() {
		x := holding(t, 8, noise(7, size), written(p))
		x.does(t, "the first Get", api.Counts{Reads: 1}, func() { x.gets(t, 2, p) })
		x.does(t, "the second Get", api.Counts{}, func() { x.gets(t, 2, p) })
		x.getsNot(t, 1, api.ErrForm)
		x.dirties(t)
	}
}

// P11.2: a sector that is neither noughts nor a page's bytes.
func TestGetForm(t *testing.T) {
	var bad [][]byte
	for _, p := range manyPages() {
		b := written(p)
		for at := 0; at < size; at += 1 + at%37 {
			c := slices.Clone(b)
			c[at] ^= 0x10
			bad = append(bad, c)
		}
	}
	for i, b := range bad {
		x := holding(t, 8, b, written(heap(4)))
		for range 2 {
			x.does(t, "Get", api.Counts{Reads: 1}, func() { x.getsNot(t, 1, api.ErrForm) })
		}
		if got := x.framed(t); len(got) != 0 {
			t.Fatalf("bytes %d: %v are in frames", i, got)
		}
		x.gets(t, 2, heap(4))
		x.puts(t, 1, heap(0)) // what a page is to be hangs on nothing that it was
		x.gets(t, 1, heap(0))
		x.dirties(t, api.Dirty{Page: 1})
	}
}

// wrongPages are pages that may not be.
func wrongPages() []api.Page {
	all := []api.Page{{LSN: 1}, {LSN: 1 << 40}, {Next: 1}, {Next: math.MaxUint32}, {Cells: []api.Cell{{}}}, {Cells: []api.Cell{cell("a")}}, {Kind: 4}, {Kind: -1}, {Kind: 256}, {Kind: 257}, {Kind: math.MinInt}, {Kind: 1<<32 + 1},
		pageOf(heapKind, 1, cell("a"), api.Cell{}), pageOf(heapKind, 1, cell("")), pageOf(heapKind, 1, api.Cell{Killer: 1}, cell("a")), pageOf(heapKind, 1, api.Cell{Data: []byte("x")}, cell("a")),
		pageOf(heapKind, 1, cell(strings.Repeat("x", 181))), pageOf(leafKind, 1, cell("b"), cell("a")), pageOf(leafKind, 1, cell("a"), cell("a")), pageOf(leafKind, 1, api.Cell{}, cell("a")),
		pageOf(innerKind, 1, dead(7, "abcde")), pageOf(innerKind, 1, cell("abcd")), pageOf(innerKind, 1, cell("a...."), cell("a...:"))}
	all = append(all, pageOf(heapKind, 1, slices.Repeat([]api.Cell{cell("x")}, 61)...))
	return append(all, pageOf(heapKind, 1, cell(strings.Repeat("y", 180)), cell(strings.Repeat("z", 180)), cell(strings.Repeat("w", 117))))
}

// P11.2: pages that may not be put: nothing has changed then.
func TestPutForm(t *testing.T) {
	for _, wrong := range wrongPages() {
		x := holding(t, 8, written(heap(4)), written(heap(5)))
		x.puts(t, 1, heap(6))
		x.does(t, "Put", api.Counts{}, func() {
			x.putsNot(t, 1, wrong, api.ErrForm)
			x.putsNot(t, 2, wrong, api.ErrForm)
			x.putsNot(t, 3, wrong, api.ErrRange)
		})
		x.dirties(t, api.Dirty{Page: 1, From: 6})
		x.gets(t, 1, heap(6))
		x.does(t, "Get", api.Counts{Reads: 1}, func() { x.gets(t, 2, heap(5)) })
	}
}

// P11.2, P11.4: what was put is told, is dirty, and lasts behind FlushAll; a Put reads nothing.
func TestPut(t *testing.T) {
	for _, p := range manyPages() {
		x := holding(t, 8, noise(7, size), written(heap(5)))
		end := x.l.End()
		for _, number := range []uint32{1, 2} {
			x.does(t, "Put and Get", api.Counts{}, func() {
				x.puts(t, number, p)
				x.gets(t, number, p)
			})
		}
		x.dirties(t, api.Dirty{Page: 1, From: p.LSN}, api.Dirty{Page: 2, From: p.LSN})
		x.does(t, "FlushAll", api.Counts{Writes: 2, Syncs: 1}, func() { is(t, "FlushAll", x.p.FlushAll(), api.OK) })
		x.does(t, "FlushAll of nothing", api.Counts{}, func() { is(t, "FlushAll", x.p.FlushAll(), api.OK) })
		x.dirties(t)
		x.does(t, "Get", api.Counts{}, func() { x.gets(t, 1, p) })
		x.lasts(t, 1, written(p))
		x.lasts(t, 2, written(p))
		if x.l.End() != end || x.l.Durable() != end || x.d.Pending() != 0 {
			t.Fatalf("the log has come to %d, %d", x.l.End(), x.l.Durable())
		}
	}
}

// P11.2: an empty list of cells may be nil or not: both are the zero page.
func TestZeroPage(t *testing.T) {
	x := holding(t, 8, written(heap(4)), noise(7, size))
	x.puts(t, 1, api.Page{Cells: []api.Cell{}})
	x.puts(t, 2, api.Page{Cells: make([]api.Cell, 0, 9)})
	x.gets(t, 1, api.Page{})
	x.gets(t, 2, api.Page{})
	x.dirties(t, api.Dirty{Page: 1}, api.Dirty{Page: 2})
	is(t, "FlushAll", x.p.FlushAll(), api.OK)
	x.lasts(t, 1, make([]byte, size))
	x.lasts(t, 2, make([]byte, size))
	x = x.anew(t, 8)
	x.gets(t, 1, api.Page{})
	x.gets(t, 2, api.Page{})
}

// P11.4: from which LSN a page is dirty: that which it had when it became so, whatever is put behind that.
func TestDirtyFrom(t *testing.T) {
	x := holding(t, 8, slices.Repeat([][]byte{written(heap(4))}, 30)...)
	for _, number := range []uint32{7, 3, 30, 9} {
		x.puts(t, number, heap(uint64(number)))
	}
	want := []api.Dirty{{Page: 3, From: 3}, {Page: 7, From: 7}, {Page: 9, From: 9}, {Page: 30, From: 30}}
	x.dirties(t, want...)
	for _, lsn := range []uint64{100, 1, 0, math.MaxUint64} {
		x.puts(t, 7, heap(lsn))
		x.puts(t, 3, heap(lsn))
		x.dirties(t, want...)
	}
	x.gets(t, 8, heap(4))
	x.putsNot(t, 8, api.Page{Kind: 9}, api.ErrForm)
	x.dirties(t, want...)
	is(t, "FlushAll", x.p.FlushAll(), api.OK)
	x.dirties(t)
	x.puts(t, 7, heap(50))
	x.puts(t, 3, api.Page{})
	x.puts(t, 3, heap(70))
	x.dirties(t, api.Dirty{Page: 3}, api.Dirty{Page: 7, From: 50})
}

// P11.4: a page that was written because its frame was wanted is dirty from where it was; put again, too.
func TestDirtyStays(t *testing.T) {
	x := holding(t, 8, slices.Repeat([][]byte{written(heap(4))}, 30)...)
	var want []api.Dirty
	for number := uint32(1); number <= 30; number++ {
		x.puts(t, number, heap(uint64(100-number)))
		want = append(want, api.Dirty{Page: number, From: uint64(100 - number)})
		x.dirties(t, want...)
	}
	if got := x.d.Pending(); got != 22 {
		t.Fatalf("%d pages were written", got)
	}
	for number := uint32(1); number <= 30; number++ {
		x.gets(t, number, heap(uint64(100-number)))
	}
	x.dirties(t, want...)
	if got := x.d.Pending(); got != 30 {
		t.Fatalf("%d pages were written", got)
	}
	x.does(t, "a Sync that is not the pool's", api.Counts{Syncs: 1}, func() { is(t, "Sync", x.d.Sync(), api.OK) })
	x.dirties(t, want...)
	x.puts(t, 4, heap(500))
	x.dirties(t, want...)
	x.does(t, "FlushAll", api.Counts{Writes: 1, Syncs: 1}, func() { is(t, "FlushAll", x.p.FlushAll(), api.OK) })
	x.dirties(t)
	x.lasts(t, 4, written(heap(500)))
}

// P11.4: FlushAll of pages that were all written already is a Sync alone; and then nothing is dirty.
func TestFlushWritten(t *testing.T) {
	x := holding(t, 8, slices.Repeat([][]byte{written(heap(4))}, 40)...)
	x.puts(t, 1, heap(7))
	for number := uint32(2); number <= 40; number++ {
		x.gets(t, number, heap(4))
	}
	if x.d.Pending() != 1 {
		t.Fatalf("%d writes in the cache", x.d.Pending())
	}
	x.lasts(t, 1, written(heap(4)))
	x.dirties(t, api.Dirty{Page: 1, From: 7})
	x.does(t, "FlushAll", api.Counts{Syncs: 1}, func() { is(t, "FlushAll", x.p.FlushAll(), api.OK) })
	x.lasts(t, 1, written(heap(7)))
	x.dirties(t)
	x.does(t, "FlushAll of nothing", api.Counts{}, func() { is(t, "FlushAll", x.p.FlushAll(), api.OK) })
}

// P11.4: where nothing is dirty, nothing is done: though the cache is not empty, and the log is not flushed, and in the dark.
func TestFlushNothing(t *testing.T) {
	x := holding(t, 8, written(heap(4)), written(heap(4)))
	x.appends(t, 3)
	x.gets(t, 1, heap(4))
	is(t, "Write", x.d.Write(18, written(heap(5))), api.OK)
	x.does(t, "FlushAll", api.Counts{}, func() { is(t, "FlushAll", x.p.FlushAll(), api.OK) })
	if x.d.Pending() != 1 || x.l.Durable() != 1 {
		t.Fatalf("%d in the cache, Durable %d", x.d.Pending(), x.l.Durable())
	}
	x.d.Trip(0)
	is(t, "FlushAll", x.p.FlushAll(), api.OK)
	is(t, "Sync", x.d.Sync(), api.ErrDark)
	is(t, "FlushAll", x.p.FlushAll(), api.OK)
}

// P11.3: which LSNs want the log flushed: those that are not below Durable; whichever call writes the page.
func TestLogFirst(t *testing.T) {
	for _, lsn := range []uint64{0, 1, 5, 8, 9, 10, 12, 13, 16, 17, 18, 1000, math.MaxUint64} {
		for way, more := range map[string]api.Counts{"FlushAll": {Syncs: 1}, "Get": {Reads: 1}, "Put": {}} {
			x := holding(t, 8, slices.Repeat([][]byte{written(heap(4))}, 9)...)
			x.appends(t, 2)
			is(t, "Flush", x.l.Flush(), api.OK) // Durable is 9
			x.appends(t, 2)                     // End is 17
			x.puts(t, 1, heap(lsn))
			for number := uint32(2); number <= 8; number++ {
				x.gets(t, number, heap(4))
			}
			if x.l.Durable() != 9 {
				t.Fatalf("Durable %d ahead of all", x.l.Durable())
			}
			want, durable := more, uint64(9)
			want.Writes++
			if lsn >= 9 {
				want.Writes++
				want.Syncs++
				durable = 17
			}
			x.does(t, fmt.Sprint(way, " with ", lsn), want, func() {
				switch way {
				case "FlushAll":
					is(t, way, x.p.FlushAll(), api.OK)
				case "Get":
					x.gets(t, 9, heap(4))
				case "Put":
					x.puts(t, 9, heap(0))
				}
			})
			if x.l.Durable() != durable {
				t.Fatalf("%s with %d: Durable %d, want %d", way, lsn, x.l.Durable(), durable)
			}
		}
	}
}

// P11.3: where the log has nothing that does not last, it is not flushed, though the page's LSN is beyond its end.
func TestLogFlushed(t *testing.T) {
	x := holding(t, 8, slices.Repeat([][]byte{written(heap(4))}, 3)...)
	x.appends(t, 2)
	is(t, "Flush", x.l.Flush(), api.OK)
	x.puts(t, 1, heap(9))
	x.puts(t, 2, heap(1000))
	x.puts(t, 3, heap(8))
	x.does(t, "FlushAll", api.Counts{Writes: 3, Syncs: 1}, func() { is(t, "FlushAll", x.p.FlushAll(), api.OK) })
}

// P11.2, P11.3: an error of the disk comes up, wherever the power goes; and Dirty tells what it told.
func TestErrorsComeUp(t *testing.T) {
	for trip := range 6 {
		for _, way := range []string{"FlushAll", "Get", "Put"} {
			x := holding(t, 8, slices.Repeat([][]byte{written(heap(4))}, 9)...)
			for number := uint32(1); number <= 8; number++ {
				x.puts(t, number, heap(x.appends(t, 1)))
			}
			dirty := x.p.Dirty()
			x.d.Trip(trip)
			switch way {
			case "FlushAll": // the log's Write and Sync, the pages' first writes
				is(t, way, x.p.FlushAll(), api.ErrDark)
			case "Get": // a Read, the log's Write and Sync, a page's Write
				if trip >= 4 {
					x.gets(t, 9, heap(4))
					continue
				}
				x.getsNot(t, 9, api.ErrDark)
			case "Put":
				if trip >= 3 {
					x.puts(t, 9, heap(4))
					continue
				}
				x.putsNot(t, 9, heap(4), api.ErrDark)
			}
			if !x.d.Dark() {
				t.Fatalf("%s with a trip of %d: not dark", way, trip)
			}
			x.dirties(t, dirty...)
		}
	}
}

// P11.1: a page that is in a frame is told, and put, in the dark, too; a clean one gives its frame up there.
func TestDarkFrames(t *testing.T) {
	x := holding(t, 8, slices.Repeat([][]byte{written(heap(4))}, 9)...)
	for number := uint32(1); number <= 8; number++ {
		x.gets(t, number, heap(4))
	}
	x.d.Trip(0)
	is(t, "Sync", x.d.Sync(), api.ErrDark)
	for number := uint32(1); number <= 8; number++ {
		x.gets(t, number, heap(4))
	}
	x.puts(t, 9, heap(0))
	x.gets(t, 9, heap(0))
	x.puts(t, 9, heap(7))
	x.gets(t, 9, heap(7))
	x.dirties(t, api.Dirty{Page: 9})
	is(t, "FlushAll", x.p.FlushAll(), api.ErrDark)
	x.dirties(t, api.Dirty{Page: 9})
}

// P11.1: as many pages as there are frames are read once each, however often they are asked for; more are not all in frames.
func TestReadOnce(t *testing.T) {
	for _, frames := range []int{8, 9, 31, 255, 256} {
		x := holding(t, frames, slices.Repeat([][]byte{written(heap(4))}, frames+1)...)
		x.does(t, fmt.Sprint(frames, " pages in ", frames, " frames"), api.Counts{Reads: frames}, func() {
			for range 3 {
				for number := range uint32(frames) {
					x.gets(t, number+1, heap(4))
				}
			}
		})
		from := x.d.Counts().Reads
		x.gets(t, uint32(frames+1), heap(4))
		for number := range uint32(frames) {
			x.gets(t, number+1, heap(4))
		}
		if got := x.d.Counts().Reads - from; got < 2 {
			t.Fatalf("%d pages were in %d frames", frames+1, frames)
		}
		if got := x.framed(t); len(got) != frames {
			t.Fatalf("%d pages are in %d frames", len(got), frames)
		}
	}
}

// P11.2: a Get that answers ErrForm takes no frame from a page.
func TestFormTakesNoFrame(t *testing.T) {
	x := holding(t, 8, append(slices.Repeat([][]byte{written(heap(4))}, 8), noise(5, size))...)
	for number := uint32(1); number <= 8; number++ {
		x.puts(t, number, heap(uint64(number)))
	}
	x.does(t, "Get", api.Counts{Reads: 3}, func() {
		for range 3 {
			x.getsNot(t, 9, api.ErrForm)
		}
		for number := uint32(1); number <= 8; number++ {
			x.gets(t, number, heap(uint64(number)))
		}
	})
	if got := x.framed(t); !slices.Equal(got, []uint32{1, 2, 3, 4, 5, 6, 7, 8}) {
		t.Fatalf("%v are in frames", got)
	}
}

// P11.5: a nil pool, and one that New did not make.
func TestNone(t *testing.T) {
	for _, p := range []*Pool{nil, {}, new(Pool)} {
		x := place{p: p}
		for range 2 {
			for _, number := range []uint32{0, 1, 2, 17, math.MaxUint32} {
				x.getsNot(t, number, api.ErrRange)
				x.putsNot(t, number, heap(1), api.ErrRange)
				x.putsNot(t, number, api.Page{}, api.ErrRange)
				x.putsNot(t, number, api.Page{Kind: 9}, api.ErrRange)
			}
			is(t, "FlushAll", p.FlushAll(), api.OK)
			if p.Pages() != 0 || len(p.Dirty()) != 0 {
				t.Fatalf("Pages %d, Dirty %v", p.Pages(), p.Dirty())
			}
		}
	}
}

// The clock: the hand goes round; who was asked for since it came by last stays this time; by a clock of the tests' own.
func TestClock(t *testing.T) {
	type hour struct {
		number uint32
		asked  bool
	}
	for seed := range uint64(60) {
		pick := picker(seed)
		frames := 8 + pick(5)
		pages := frames + 1 + pick(12)
		x := holding(t, frames, slices.Repeat([][]byte{written(heap(4))}, pages)...)
		var face []hour
		hand := 0
		for range 400 {
			number := uint32(1 + pick(pages)*pick(pages)/pages)
			at := slices.IndexFunc(face, func(h hour) bool { return h.number == number })
			switch {
			case at >= 0:
				face[at].asked = true
			case len(face) < frames:
				face = append(face, hour{number, true})
			default:
				for ; face[hand].asked; hand = (hand + 1) % frames {
					face[hand].asked = false
				}
				face[hand] = hour{number, true}
				hand = (hand + 1) % frames
			}
			if pick(3) == 0 {
				x.puts(t, number, heap(4))
			} else {
				x.gets(t, number, heap(4))
			}
			var want []uint32
			for _, h := range face {
				want = append(want, h.number)
			}
			slices.Sort(want)
			if got := x.framed(t); !slices.Equal(got, want) {
				t.Fatalf("seed %d: %v are in frames, want %v", seed, got, want)
			}
		}
	}
}

// P1: a wide page's bytes are those of chapter 7: what is written by hand here is what the disk has.
func TestBytes(t *testing.T) {
	x := holding(t, 8, noise(3, size))
	x.puts(t, 1, api.Page{Kind: heapKind, LSN: 0x0807060504030201, Next: 0x0c0b0a09, Cells: []api.Cell{{}, dead(0x04030201, "ab")}})
	is(t, "FlushAll", x.p.FlushAll(), api.OK)
	b := x.d.Image()[17*size+4:]
	want := append([]byte{1, 2, 1, 2, 3, 4, 5, 6, 7, 8, 9, 10, 11, 12, 0, 0, 2, 0, 1, 2, 3, 4, 'a', 'b'}, make([]byte, size-28)...)
	if !bytes.Equal(b, want) {
		t.Fatalf("the sector has %x behind its sum", b)
	}
}
