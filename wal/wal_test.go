package wal

import (
	"bytes"
	"math"
	"slices"
	"testing"

	"cadastre/api"
	"cadastre/disk"
)

// The chapter's examples, one by one.
func TestExamples(t *testing.T) {
	is(t, "Format(20, 15)", Format(fresh(t, 20), 15), api.ErrArg)
	is(t, "Format(16, 16)", Format(fresh(t, 16), 16), api.ErrArg)
	d := formatted(t, 20, 16)
	l := opens(t, d)
	tells(t, l, facts{base: 1, end: 1, durable: 1, room: 8160, sectors: 16})
	appends(t, l, begin(300), 1)
	appends(t, l, begin(1), 6)
	tells(t, l, facts{base: 1, end: 10, durable: 1, room: 8151, sectors: 16})
	is(t, "Flush", l.Flush(), api.OK)
	b, e := d.Read(1)
	if want := append([]byte("\x09\x00\x05\x00\x01\xac\x02\x04\x00\x01\x01"), make([]byte, 501)...); e != api.OK || !bytes.Equal(b, want) {
		t.Fatalf("sector 1: %x, %d", b, int(e))
	}
	is(t, "Mark(6)", l.Mark(6), api.OK)
	is(t, "Mark(7)", l.Mark(7), api.ErrArg)
	tells(t, l, facts{base: 1, end: 10, durable: 10, check: 6, room: 8151, sectors: 16})
	is(t, "Reset(5)", l.Reset(5), api.OK)
	tells(t, l, facts{base: 10, end: 10, durable: 10, kept: 5, room: 8160, sectors: 16})
	appends(t, l, begin(7), 10)
}

// The master's bytes, written out.
func TestMasterBytes(t *testing.T) {
	d := formatted(t, 18, 17)
	rest := make([]byte, 512-33)
	lasts(t, d, append([]byte("cadastre\x11\x00\x00\x00\x01\x00\x00\x00\x00\x00\x00\x00\x00\x00\x00\x00\x00\x00\x00\x00\x00\x00\x00\x00\x00"), rest...))
	l := opens(t, d)
	for at := uint64(1); at < 0x301; at += 4 {
		appends(t, l, begin(1), at)
	}
	is(t, "Reset", l.Reset(0x89abcdef), api.OK)
	appends(t, l, begin(1), 0x301)
	appends(t, l, begin(1), 0x305)
	is(t, "Flush", l.Flush(), api.OK)
	is(t, "Mark", l.Mark(0x305), api.OK)
	lasts(t, d, append([]byte("cadastre\x11\x00\x00\x00\x01\x03\x00\x00\x00\x00\x00\x00\x05\x03\x00\x00\x00\x00\x00\x00\xef\xcd\xab\x89\x00"), rest...))
}

// P10.1: n below 16, or not below the disk's sectors, or no disk: nothing is done.
func TestFormatNone(t *testing.T) {
	for _, sectors := range []int{1, 2, 15, 16, 17, 18, 300, 8192} {
		for _, n := range []int{math.MinInt, -1 << 32, -16, -1, 0, 1, 14, 15, 16, 17, 18, 299, 300, 301, 8191, 8192, 8193, 1 << 32, 1<<32 + 16, math.MaxInt} {
			if n >= 16 && n < sectors {
				continue
			}
			d := fresh(t, sectors)
			does(t, d, api.Counts{}, func() { is(t, "Format", Format(d, n), api.ErrArg) })
			d.Trip(0)
			is(t, "Sync", d.Sync(), api.ErrDark)
			is(t, "Format of a dark disk", Format(d, n), api.ErrArg)
		}
	}
	for _, n := range []int{math.MinInt, -1, 0, 15, 16, 17, 8191, math.MaxInt} {
		is(t, "Format of no disk", Format(nil, n), api.ErrArg)
		is(t, "Format of a disk of no sectors", Format(&disk.Disk{}, n), api.ErrArg)
	}
}

// P10.1: the log's sectors are noughts, the master is as it is told, all of it lasts, and nothing else is changed.
func TestFormat(t *testing.T) {
	for _, c := range []struct{ sectors, n int }{{17, 16}, {18, 16}, {18, 17}, {300, 255}, {300, 256}, {300, 257}, {300, 299}, {8192, 16}, {8192, 8191}} {
		image := noise(uint64(c.sectors+c.n), c.sectors*size)
		d, _ := disk.Load(image)
		is(t, "Write", d.Write(3, image[:size]), api.OK)
		is(t, "Write", d.Write(c.sectors-1, image[:size]), api.OK)
		from := d.Counts()
		is(t, "Format", Format(d, c.n), api.OK)
		if got := done(from, d.Counts()); got.Syncs != 1 || d.Pending() != 0 {
			t.Fatalf("Format of %d, %d: %+v were done, %d in the cache", c.sectors, c.n, got, d.Pending())
		}
		want := [][]byte{masterWith(uint32(c.n), 1, 0, 0, 0)}
		for range c.n {
			want = append(want, make([]byte, size))
		}
		for at := c.n + 1; at < c.sectors-1; at++ {
			want = append(want, image[at*size:(at+1)*size])
		}
		if c.n < c.sectors-1 {
			want = append(want, image[:size])
		}
		lasts(t, d, want...)
		l := opens(t, d)
		tells(t, l, facts{base: 1, end: 1, durable: 1, room: c.n * 510, sectors: c.n})
	}
}

// P10.1: the disk's error; a disk whose Format was broken off is formatted again.
func TestFormatDark(t *testing.T) {
	for trip := 0; ; trip++ {
		d, _ := disk.Load(noise(5, 20*size))
		d.Trip(trip)
		e := Format(d, 17)
		if e == api.OK {
			if trip < 19 {
				t.Fatalf("Format was done by %d operations", trip)
			}
			break
		}
		is(t, "Format", e, api.ErrDark)
		is(t, "Format of a dark disk", Format(d, 17), api.ErrDark)
		pick := picker(uint64(trip))
		keep := make([]bool, d.Pending())
		for i := range keep {
			keep[i] = pick(2) == 0
		}
		d.Cut(keep...)
		is(t, "Format again", Format(d, 17), api.OK)
		l := opens(t, d)
		tells(t, l, facts{base: 1, end: 1, durable: 1, room: 17 * 510, sectors: 17})
	}
}

// P10.1: a log that was used is formatted anew: nothing of it is left.
func TestFormatUsed(t *testing.T) {
	d := formatted(t, 18, 16)
	l := opens(t, d)
	for range 5 {
		appends(t, l, sized(1000, 3), l.End())
	}
	is(t, "Reset", l.Reset(9), api.OK)
	for range 5 {
		appends(t, l, sized(1000, 3), l.End())
	}
	is(t, "Flush", l.Flush(), api.OK)
	is(t, "Mark", l.Mark(5001), api.OK)
	is(t, "Format", Format(d, 17), api.OK)
	tells(t, opens(t, d), facts{base: 1, end: 1, durable: 1, room: 17 * 510, sectors: 17})
}

// P10.3: records one behind the other; nothing is done to the disk.
func TestAppend(t *testing.T) {
	d := formatted(t, 40, 39)
	l := opens(t, d)
	at, room := uint64(1), 39*510
	does(t, d, api.Counts{}, func() {
		for _, n := range []int{4, 5, 6, 12, 13, 18, 19, 100, 127, 128, 129, 509, 510, 511, 512, 1020, 4, 4000, 5} {
			r := sized(n, n)
			r.LSN = uint64(n) * 77
			appends(t, l, r, at)
			at, room = at+uint64(n), room-n
			tells(t, l, facts{base: 1, end: at, durable: 1, room: room, sectors: 39})
		}
	})
	if d.Pending() != 0 {
		t.Fatalf("%d in the cache", d.Pending())
	}
}

// P10.3: records that may not be, whatever room there is.
func TestAppendForm(t *testing.T) {
	wrong := []api.Record{
		{}, {LSN: 1}, {Kind: 9}, {Kind: -1, Txn: 1}, {Kind: recBegin}, {Kind: recBegin, LSN: 1}, {Kind: recBegin, Txn: 1, Prev: 1}, {Kind: recCommit, Txn: 1, Page: 4},
		{Kind: recDo, Txn: 1, Page: 2}, {Kind: recDo, Txn: 1, Page: 2, Op: api.Op{Kind: 3}}, {Kind: 4}, {Kind: recCheck, Dirty: []api.Dirty{{Page: 2}, {Page: 2}}},
		{Kind: recCheck, Lives: []api.Live{{Txn: 0}}}, tooLong(),
	}
	l := opens(t, formatted(t, 40, 39))
	for _, r := range wrong {
		appendsNot(t, l, r, api.ErrForm)
	}
	appends(t, l, sized(mostRec, 1), 1)
	small := opens(t, diskWith(t, 16, 1, streamOf(sized(8160, 2))), placed(1, sized(8160, 2))...)
	for _, r := range wrong {
		appendsNot(t, small, r, api.ErrForm)
	}
	appendsNot(t, small, begin(1), api.ErrFull)
	tells(t, small, facts{base: 1, end: 8161, durable: 8161, sectors: 16})
}

// tooLong is a record that would have one byte more than there may be.
func tooLong() api.Record {
	r := sized(mostRec, 1)
	last := &r.Dirty[len(r.Dirty)-1]
	*last = api.Dirty{Page: last.Page, From: last.From << 7}
	return r
}

// P10.3: a record of Room's bytes finds room, one of a byte more does not.
func TestAppendFull(t *testing.T) {
	for _, n := range []int{16, 17, 31, 40} {
		for _, left := range []int{0, 1, 3, 4, 5, 20, 509, 510, 511, 4000} {
			for more := -1; more <= 1; more++ {
				d := formatted(t, n+1, n)
				l := opens(t, d)
				for l.Room() > left {
					appends(t, l, sized(min(l.Room()-left, 4000+l.Room()%4000), 7), l.End())
					if gap := l.Room() - left; gap > 0 && gap < 4 {
						t.Fatalf("a gap of %d", gap)
					}
				}
				r := sized(max(4, left+more), 8)
				if len(bytesOf(r)) > left {
					does(t, d, api.Counts{}, func() { appendsNot(t, l, r, api.ErrFull) })
				} else {
					appends(t, l, r, l.End())
				}
				if left >= 4 && more > 0 {
					appends(t, l, sized(left, 9), l.End())
				}
				all := factsOf(l)
				is(t, "Flush", l.Flush(), api.OK)
				if all.room != n*510-int(l.End()-1) || l.Room() != all.room {
					t.Fatalf("Room %d, then %d, with End %d of %d sectors", all.room, l.Room(), l.End(), n)
				}
				again, records, e := Open(d)
				if e != api.OK || len(records) == 0 || again.End() != all.end || again.Room() != all.room {
					t.Fatalf("Open of a full log: %d, %+v, want %+v", int(e), factsOf(again), all)
				}
			}
		}
	}
}

// P10.4: nothing is done where all lasts; else the sectors that have bytes from Durable on are written.
func TestFlush(t *testing.T) {
	for _, c := range []struct {
		ahead  []int // what was flushed ahead
		sizes  []int
		writes int
	}{
		{nil, nil, 0}, {[]int{4}, nil, 0}, {[]int{510}, nil, 0}, {[]int{1021}, nil, 0},
		{nil, []int{4}, 1}, {nil, []int{509}, 1}, {nil, []int{510}, 1}, {nil, []int{511}, 2}, {nil, []int{4, 506}, 1}, {nil, []int{4, 507}, 2},
		{[]int{4}, []int{4}, 1}, {[]int{4}, []int{506}, 1}, {[]int{4}, []int{507}, 2}, {[]int{4}, []int{1016}, 2}, {[]int{4}, []int{1017}, 3},
		{[]int{509}, []int{4}, 2}, {[]int{510}, []int{4}, 1}, {[]int{510}, []int{510}, 1}, {[]int{510}, []int{511}, 2}, {[]int{511}, []int{4}, 1},
		{[]int{506, 4}, []int{4, 4}, 1}, {[]int{1019}, []int{5}, 2}, {[]int{1020}, []int{5}, 1}, {[]int{500, 2000}, []int{2000, 4}, 5}, {[]int{8150}, []int{10}, 1},
		{[]int{7000}, []int{1160}, 3}, {nil, []int{8160}, 16}, {[]int{4}, []int{4, 8152}, 16},
	} {
		d := formatted(t, 17, 16)
		l := opens(t, d)
		var all []api.Record
		add := func(sizes []int) {
			for _, n := range sizes {
				r := sized(n, n+len(all))
				appends(t, l, r, l.End())
				all = append(all, r)
			}
		}
		add(c.ahead)
		is(t, "Flush", l.Flush(), api.OK)
		durable := l.End()
		add(c.sizes)
		if l.Durable() != durable {
			t.Fatalf("Durable %d, want %d", l.Durable(), durable)
		}
		want := api.Counts{Writes: c.writes}
		if c.writes > 0 {
			want.Syncs = 1
		}
		does(t, d, want, func() { is(t, "Flush", l.Flush(), api.OK) })
		end := uint64(1 + len(streamOf(all...)))
		tells(t, l, facts{base: 1, end: end, durable: end, room: 8161 - int(end), sectors: 16})
		does(t, d, api.Counts{}, func() { is(t, "Flush again", l.Flush(), api.OK) })
		lasts(t, d, slices.Concat([][]byte{masterWith(16, 1, 0, 0, 0)}, sectorsOf(16, streamOf(all...)))...)
		opens(t, d, placed(1, all...)...)
	}
}

// P10.4: where nothing is to be done, a dark disk is not asked; else its error comes up.
func TestFlushDark(t *testing.T) {
	d := formatted(t, 17, 16)
	l := opens(t, d)
	d.Trip(0)
	is(t, "Sync", d.Sync(), api.ErrDark)
	is(t, "Flush of nothing", l.Flush(), api.OK)
	appends(t, l, begin(1), 1)
	is(t, "Flush", l.Flush(), api.ErrDark)
	is(t, "Mark", l.Mark(0), api.ErrDark)
	is(t, "Mark", l.Mark(1), api.ErrArg)
	is(t, "Reset", l.Reset(1), api.ErrDark)
}

// P10.4: what else is in the disk's cache lasts, too, behind a Sync; ahead of it no sector does.
func TestFlushOrder(t *testing.T) {
	for trip := range 5 {
		d := formatted(t, 18, 16)
		l := opens(t, d)
		appends(t, l, sized(300, 1), 1)
		is(t, "Flush", l.Flush(), api.OK)
		appends(t, l, sized(1000, 2), 301)
		stream := streamOf(sized(300, 1), sized(1000, 2))
		is(t, "Write", d.Write(17, noise(1, size)), api.OK)
		d.Trip(trip)
		want := sectorsOf(16, stream)
		if trip == 4 {
			is(t, "Flush", l.Flush(), api.OK)
			lasts(t, d, append(append([][]byte{masterWith(16, 1, 0, 0, 0)}, want...), noise(1, size))...)
			continue
		}
		is(t, "Flush", l.Flush(), api.ErrDark)
		if d.Pending() != 1+trip {
			t.Fatalf("a trip of %d: %d in the cache", trip, d.Pending())
		}
		old := sectorsOf(16, stream[:300])
		lasts(t, d, append([][]byte{masterWith(16, 1, 0, 0, 0)}, old...)...)
		d.Cut(true, true, true, true)
		copy(old[:trip], want)
		lasts(t, d, append(append([][]byte{masterWith(16, 1, 0, 0, 0)}, old...), noise(1, size))...)
	}
}

// P10.5: 0, and the LSNs of records that last, and no others; the master says it, and a Sync.
func TestMark(t *testing.T) {
	d := formatted(t, 20, 16)
	l := opens(t, d)
	right := map[uint64]bool{0: true}
	for _, n := range []int{4, 600, 4, 5, 497, 510, 4} {
		right[l.End()] = true
		appends(t, l, sized(n, n), l.End())
	}
	for check := uint64(1); check < 2000; check++ {
		is(t, "Mark ahead of a Flush", l.Mark(check), api.ErrArg)
	}
	is(t, "Flush", l.Flush(), api.OK)
	durable := l.End()
	for range 3 {
		appends(t, l, begin(1), l.End())
	}
	for _, check := range []uint64{1 << 32, 1<<32 + 1, 1<<62 + 1, 1 << 63, math.MaxUint64} {
		is(t, "Mark", l.Mark(check), api.ErrArg)
	}
	stream := streamOf(sized(4, 4), sized(600, 600), sized(4, 4), sized(5, 5), sized(497, 497), sized(510, 510), sized(4, 4))
	last := uint64(0)
	for check := range durable + 100 {
		want, ops := api.ErrArg, api.Counts{}
		if right[check] {
			want, ops, last = api.OK, api.Counts{Writes: 1, Syncs: 1}, check
		}
		for range 2 {
			does(t, d, ops, func() { is(t, "Mark", l.Mark(check), want) })
			tells(t, l, facts{base: 1, end: durable + 12, durable: durable, check: last, room: 8161 - int(durable) - 12, sectors: 16})
		}
		lasts(t, d, append([][]byte{masterWith(16, 1, last, 0, 0)}, sectorsOf(16, stream)...)...)
	}
	is(t, "Mark(0)", l.Mark(0), api.OK)
	tells(t, l, facts{base: 1, end: durable + 12, durable: durable, room: 8161 - int(durable) - 12, sectors: 16})
}

// P10.5: a record that was read by Open may be marked; the mark is there behind the next Open.
func TestMarkOpened(t *testing.T) {
	records := []api.Record{sized(700, 1), sized(8, 2), sized(500, 3), begin(4)}
	d := diskWith(t, 16, 1000, streamOf(records...))
	for _, check := range []uint64{1000, 1700, 1708, 2208, 0, 1708} {
		l := opens(t, d, placed(1000, records...)...)
		for _, wrong := range []uint64{999, 1001, 1699, 1701, 2207, 2209, 2212, 1} {
			is(t, "Mark", l.Mark(wrong), api.ErrArg)
		}
		is(t, "Mark", l.Mark(check), api.OK)
		again := opens(t, d, placed(1000, records...)...)
		tells(t, again, facts{base: 1000, end: 2212, durable: 2212, check: check, room: 8160 - 1212, sectors: 16})
	}
}

// P10.6: a Reset empties the log, whether it was flushed or not.
func TestReset(t *testing.T) {
	for _, c := range []struct {
		flushed, more []int
		writes        int
	}{
		{nil, nil, 0}, {nil, []int{4}, 0}, {nil, []int{2000}, 0}, {[]int{4}, nil, 1}, {[]int{510}, nil, 1}, {[]int{511}, nil, 2}, {[]int{505, 5, 4}, []int{4}, 2},
		{[]int{509}, []int{2000, 4}, 1}, {[]int{8160}, nil, 16}, {[]int{8000}, []int{160}, 16}, {[]int{4, 4, 1012}, []int{1000, 1000}, 2},
	} {
		d := formatted(t, 19, 16)
		l := opens(t, d)
		for _, n := range c.flushed {
			appends(t, l, sized(n, n), l.End())
		}
		is(t, "Flush", l.Flush(), api.OK)
		if len(c.flushed) > 0 {
			is(t, "Mark", l.Mark(1), api.OK)
		}
		for _, n := range c.more {
			appends(t, l, sized(n, n), l.End())
		}
		end := l.End()
		does(t, d, api.Counts{Writes: 2 + c.writes, Syncs: 3}, func() { is(t, "Reset", l.Reset(0xfedcba98), api.OK) })
		emptied := facts{base: end, end: end, durable: end, kept: 0xfedcba98, room: 8160, sectors: 16}
		tells(t, l, emptied)
		lasts(t, d, append([][]byte{masterWith(16, end, 0, 0xfedcba98, 0)}, sectorsOf(16, nil)...)...)
		for _, check := range []uint64{1, end - 4, end} {
			is(t, "Mark of what is gone", l.Mark(check), api.ErrArg)
		}
		is(t, "Flush of nothing", l.Flush(), api.OK)
		tells(t, opens(t, d), emptied)
		appends(t, l, sized(600, 1), end)
		is(t, "Flush", l.Flush(), api.OK)
		is(t, "Mark", l.Mark(end), api.OK)
		opens(t, d, placed(end, sized(600, 1))...)
		is(t, "Reset", l.Reset(7), api.OK)
		tells(t, opens(t, d), facts{base: end + 600, end: end + 600, durable: end + 600, kept: 7, room: 8160, sectors: 16})
	}
}

// P10.7: a nil log, and one that Open did not make.
func TestNone(t *testing.T) {
	for _, l := range []*Log{nil, {}, new(Log)} {
		for range 2 {
			if lsn, e := l.Append(begin(1)); lsn != 0 || e != api.ErrArg {
				t.Fatalf("Append: %d, %d", lsn, int(e))
			}
			if lsn, e := l.Append(api.Record{}); lsn != 0 || e != api.ErrArg {
				t.Fatalf("Append of none: %d, %d", lsn, int(e))
			}
			is(t, "Flush", l.Flush(), api.ErrArg)
			is(t, "Mark", l.Mark(0), api.ErrArg)
			is(t, "Mark", l.Mark(1), api.ErrArg)
			is(t, "Reset", l.Reset(0), api.ErrArg)
			is(t, "Reset", l.Reset(9), api.ErrArg)
			tells(t, l, facts{})
		}
	}
}

// P10.2, P10.3, P10.6: nothing is appended beyond 2^62; a log that has come so far still opens, and is emptied.
func TestLast(t *testing.T) {
	for _, left := range []uint64{0, 1, 3, 4, 5, 100, 509, 510, 511, 8159, 8160, 8161} {
		d := diskWith(t, 16, lastLSN-left, nil)
		l := opens(t, d)
		room := min(int(left), 8160)
		tells(t, l, facts{base: lastLSN - left, end: lastLSN - left, durable: lastLSN - left, room: room, sectors: 16})
		appendsNot(t, l, sized(max(4, room+1), 1), api.ErrFull)
		if room < 4 {
			appendsNot(t, l, begin(1), api.ErrFull)
			is(t, "Reset", l.Reset(3), api.OK)
			tells(t, opens(t, d), facts{base: lastLSN - left, end: lastLSN - left, durable: lastLSN - left, kept: 3, room: room, sectors: 16})
			continue
		}
		appends(t, l, sized(room, 2), lastLSN-left)
		appendsNot(t, l, begin(1), api.ErrFull)
		is(t, "Flush", l.Flush(), api.OK)
		end := lastLSN - left + uint64(room)
		l = opens(t, d, placed(lastLSN-left, sized(room, 2))...)
		tells(t, l, facts{base: lastLSN - left, end: end, durable: end, sectors: 16})
		appendsNot(t, l, begin(1), api.ErrFull)
		is(t, "Mark", l.Mark(lastLSN-left), api.OK)
		is(t, "Reset", l.Reset(3), api.OK)
		l = opens(t, d)
		tells(t, l, facts{base: end, end: end, durable: end, kept: 3, room: int(lastLSN - end), sectors: 16})
		appendsNot(t, l, begin(1), api.ErrFull)
	}
}

// P10.2: a stream that goes on beyond 2^62, which no log wrote: there is no room, and no number below none.
func TestBeyondLast(t *testing.T) {
	r := sized(1000, 1)
	d := diskWith(t, 16, lastLSN-10, streamOf(r))
	l := opens(t, d, placed(lastLSN-10, r)...)
	tells(t, l, facts{base: lastLSN - 10, end: lastLSN + 990, durable: lastLSN + 990, sectors: 16})
	appendsNot(t, l, begin(1), api.ErrFull)
}
