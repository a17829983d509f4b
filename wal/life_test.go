package wal

import (
	"bytes"
	"fmt"
	"slices"
	"testing"

	"cadastre/api"
	"cadastre/disk"
)

// life is a log's life over cuts: what P10.8 and P10.9 ask of it, kept beside it.
type life struct {
	t       *testing.T
	what    string
	d       *disk.Disk
	l       *Log
	n       int
	base    uint64
	kept    uint32
	since   []api.Record // those that were appended since the last Reset
	flushed int          // how many of them are flushed
	checks  []uint64     // what Check may be behind a cut
	broken  bool         // a Reset was broken off
	to      api.Live     // where that Reset's End was (Last), and what it was handed (Txn)
	given   map[uint64]bool
}

// lifeOf begins a life on a log that stands as a setting.
func lifeOf(t *testing.T, g setting) *life {
	t.Helper()
	p := g.pair(t)
	v := &life{t: t, d: p.d, l: p.l, n: g.n, base: g.base, since: g.records(), flushed: len(g.sizes), checks: []uint64{0}, given: map[uint64]bool{}}
	for _, r := range v.since {
		v.given[r.LSN] = true
	}
	return v
}

func (v *life) fail(format string, rest ...any) {
	v.t.Helper()
	v.t.Fatalf("%s: %s", v.what, fmt.Sprintf(format, rest...))
}

// do does a call; whether the power is still there.
func (v *life) do(s step) bool {
	v.t.Helper()
	switch s.kind {
	case 'a':
		v.append(s.n)
		return true
	case 'f':
		return v.goesOn(v.l.Flush(), func() { v.flushed = len(v.since) })
	case 'm':
		check := uint64(0)
		if s.n > 0 && v.flushed > 0 {
			check = v.since[(s.n-1)%v.flushed].LSN
		}
		v.checks = append(v.checks, check)
		return v.goesOn(v.l.Mark(check), func() { v.checks = []uint64{check} })
	default:
		v.broken, v.to = true, api.Live{Last: v.l.End(), Txn: uint32(s.n)}
		return v.goesOn(v.l.Reset(uint32(s.n)), v.emptied)
	}
}

// goesOn tells whether a call was done; what is so then.
func (v *life) goesOn(e api.Errno, then func()) bool {
	v.t.Helper()
	if e == api.OK {
		then()
		return true
	}
	if e != api.ErrDark || !v.d.Dark() {
		v.fail("%d, dark %v", int(e), v.d.Dark())
	}
	return false
}

// emptied is what a Reset comes to.
func (v *life) emptied() {
	v.base, v.kept, v.since, v.flushed, v.checks, v.broken = v.to.Last, v.to.Txn, nil, 0, []uint64{0}, false
}

// append appends a record, if there is room; no LSN was ever given before, but for those that a cut lost.
func (v *life) append(n int) {
	v.t.Helper()
	if n > v.l.Room() {
		return
	}
	r := sized(n, seedAt(v.l.End())+len(v.given))
	lsn, e := v.l.Append(r)
	if e != api.OK || lsn == 0 || v.given[lsn] {
		v.fail("Append: %d, %d, given before: %v", lsn, int(e), v.given[lsn])
	}
	r.LSN = lsn
	v.given[lsn] = true
	v.since = append(v.since, r)
}

// cut cuts the disk; kept tells by a write's place whether it lasts.
func (v *life) cut(kept func(i int) bool) {
	var keep []bool
	for i := range v.d.Pending() {
		keep = append(keep, kept(i))
	}
	v.d.Cut(keep...)
}

// reopens opens the log behind a cut, and asks what P10.8 promises; whether the power is still there.
func (v *life) reopens() bool {
	v.t.Helper()
	l, records, e := Open(v.d)
	if e == api.ErrDark && v.d.Dark() {
		return false
	}
	if e != api.OK {
		v.fail("Open: %d", int(e))
	}
	v.l = l
	if v.broken && l.Base() == v.to.Last && l.Kept() == v.to.Txn && len(records) == 0 && (v.base != v.to.Last || v.kept != v.to.Txn || v.flushed == 0) {
		v.emptied()
	}
	if l.Base() != v.base || l.Kept() != v.kept || len(records) < v.flushed || len(records) > len(v.since) {
		v.fail("Base %d, Kept %d, %d records; want %d, %d, %d to %d", l.Base(), l.Kept(), len(records), v.base, v.kept, v.flushed, len(v.since))
	}
	for _, r := range v.since[len(records):] {
		delete(v.given, r.LSN)
	}
	v.since, v.flushed, v.broken = v.since[:len(records)], len(records), false
	asksRecords(v.t, records, v.since)
	if !slices.Contains(v.checks, l.Check()) {
		v.fail("Check %d, want one of %v", l.Check(), v.checks)
	}
	v.checks = []uint64{l.Check()}
	stream := streamOf(v.since...)
	tells(v.t, l, facts{v.base, v.base + uint64(len(stream)), v.base + uint64(len(stream)), l.Check(), v.kept, v.n*510 - len(stream), v.n})
	lasts(v.t, v.d, slices.Concat([][]byte{masterWith(uint32(v.n), v.base, l.Check(), v.kept, 0)}, sectorsOf(v.n, stream), pages())...)
	return true
}

// comesBack opens the log behind a cut, and lets it go on: each record that is there then is there once more.
func (v *life) comesBack() {
	v.t.Helper()
	v.d.Trip(-1)
	if !v.reopens() {
		v.fail("dark without a trip")
	}
	for range 2 {
		v.append(700)
		if !v.do(step{'f', 0}) || !v.reopens() {
			v.fail("dark without a trip")
		}
	}
}

// keepings are what a cut may keep of so many writes: all that there are of few ones.
func keepings(writes int, pick func(n int) int) []func(i int) bool {
	var all []func(i int) bool
	if writes <= 3 {
		for bits := range 1 << writes {
			all = append(all, func(i int) bool { return bits>>i&1 == 1 })
		}
		return all
	}
	for _, bits := range []int{0, -1, 1, -2, 1 << (writes - 1), pick(1 << writes), pick(1 << writes), pick(1 << writes)} {
		all = append(all, func(i int) bool { return bits>>i&1 == 1 })
	}
	return all
}

// breaksOff plays a script, lets the power go in its last call, at the trip; whether it went.
func breaksOff(t *testing.T, g setting, script []step, trip int) (*life, bool) {
	t.Helper()
	v := lifeOf(t, g)
	v.what = fmt.Sprintf("%+v: %+v with a trip of %d", g, script, trip)
	last := len(script) - 1
	for _, s := range script[:last] {
		if !v.do(s) {
			v.fail("dark without a trip")
		}
	}
	v.d.Trip(trip)
	return v, !v.do(script[last])
}

// P10.8: all scripts of up to three calls (of four, on one log), the power gone at any operation of the last one; whatever the cut keeps; and an Open broken off behind it.
func TestCuts(t *testing.T) {
	steps := []step{{'a', 5}, {'a', 700}, {'f', 0}, {'m', 0}, {'m', 2}, {'r', 9}}
	for _, g := range []setting{{16, 1, nil}, {16, 1, []int{500}}, {16, 77, []int{4, 506}}, {17, 1, []int{700, 4, 1300}}} {
		t.Run(fmt.Sprint(g), func(t *testing.T) {
			t.Parallel()
			pick := picker(uint64(len(g.sizes)))
			most := 3
			if len(g.sizes) == 1 {
				most = 4
			}
			var ask func(script []step)
			ask = func(script []step) {
				if len(script) > 0 && script[len(script)-1].kind != 'a' {
					breaksEverywhere(t, g, script, pick)
				}
				if len(script) == most {
					return
				}
				for _, s := range steps {
					ask(append(slices.Clip(script), s))
				}
			}
			ask(nil)
		})
	}
}

// breaksEverywhere lets the power go at each operation of a script's last call.
func breaksEverywhere(t *testing.T, g setting, script []step, pick func(n int) int) {
	t.Helper()
	for trip := 0; ; trip++ {
		v, dark := breaksOff(t, g, script, trip)
		if !dark {
			return
		}
		for i := range keepings(v.d.Pending(), pick) {
			v, _ := breaksOff(t, g, script, trip)
			keep := keepings(v.d.Pending(), pick)[i]
			v.what = fmt.Sprintf("%s, keeping %d", v.what, i)
			v.cut(keep)
			v.d.Trip([]int{-1, 16, 17, 18, 19, pick(40), pick(60)}[(trip+i)%7])
			if !v.reopens() {
				v.cut(func(int) bool { return pick(2) == 0 })
			}
			v.comesBack()
		}
	}
}

// P10.8, P10.9: long lives with many cuts; openings are broken off, too, again and again.
func TestLives(t *testing.T) {
	cuts, calls := 0, 0
	for seed := range 1000 {
		pick := picker(uint64(1000 + seed))
		v := lifeOf(t, setting{16 + pick(3), 1 + uint64(pick(5000)), nil})
		v.what = fmt.Sprintf("life %d", seed)
		for range 100 {
			if pick(4) == 0 {
				v.d.Trip(pick(25))
			}
			goesOn := true
			switch x := pick(100); {
			case x < 50:
				v.append(4 + pick(4+pick(30)*pick(60)))
			case x < 80:
				goesOn = v.do(step{'f', 0})
			case x < 92:
				goesOn = v.do(step{'m', pick(5)})
			case x < 96:
				goesOn = v.do(step{'r', pick(1 << 30)})
			default:
				goesOn = false // the power goes between two calls
			}
			for !goesOn {
				cuts++
				odds := 1 + pick(3)
				v.cut(func(int) bool { return pick(odds) == 0 })
				if pick(2) == 0 {
					v.d.Trip(pick(50))
				}
				goesOn = v.reopens()
			}
			calls++
		}
	}
	if cuts < 8000 || calls < 100000 {
		t.Errorf("%d cuts in %d calls: not a test", cuts, calls)
	}
}

// P10.8: a Reset that is broken off ahead of its first Sync leaves the log as it was, or none of it, as the cut wills; behind that Sync it is as good as done.
func TestResetBroken(t *testing.T) {
	for trip := 0; ; trip++ {
		for bits := range 4 {
			v := lifeOf(t, setting{16, 1, []int{700, 4}})
			v.append(100)
			v.d.Trip(trip)
			if v.do(step{'r', 5}) {
				if trip != 7 {
					t.Fatalf("a Reset of %d operations", trip)
				}
				return
			}
			syncs := v.d.Counts().Syncs
			v.cut(func(i int) bool { return bits>>i&1 == 1 })
			if !v.reopens() {
				t.Fatal("dark without a trip")
			}
			gone := v.l.Base() == 805
			if want := syncs > 0 || trip == 1 && bits&1 == 1; gone != want {
				t.Fatalf("a trip of %d, keeping %b: Base %d", trip, bits, v.l.Base())
			}
			v.append(4)
			if lsn := v.since[len(v.since)-1].LSN; gone && lsn != 805 || !gone && lsn != 705 {
				t.Fatalf("a trip of %d, keeping %b: the next LSN is %d", trip, bits, lsn)
			}
		}
	}
}

// P10.9: what a Reset emptied is not read again, though the sectors that it held are written again.
func TestNothingOld(t *testing.T) {
	d := formatted(t, 19, 16)
	l := opens(t, d)
	for round := range 20 {
		base := l.End()
		first, behind := sized(1000+round, round), sized(5000-round*100, round)
		appends(t, l, first, base)
		is(t, "Flush", l.Flush(), api.OK)
		appends(t, l, behind, l.End())
		opens(t, d, placed(base, first)...)
		is(t, "Flush", l.Flush(), api.OK)
		opens(t, d, placed(base, first, behind)...)
		is(t, "Reset", l.Reset(uint32(round)), api.OK)
		opens(t, d)
		if l.Base() != base+uint64(6000-round*99) {
			t.Fatalf("Base %d behind %d", l.Base(), base)
		}
	}
	image := d.Image()
	if !bytes.Equal(image[size:17*size], make([]byte, 16*size)) {
		t.Fatal("the log's sectors are not noughts")
	}
}
