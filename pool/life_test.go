package pool

import (
	"bytes"
	"encoding/binary"
	"fmt"
	"slices"
	"testing"

	"cadastre/api"
	"cadastre/wal"
)

// life is a pool's life over cuts: what P11.6 and P11.7 ask of it, kept beside it.
type life struct {
	place
	t      *testing.T
	what   string
	pages  int
	frames int
	pick   func(n int) int
	is     map[uint32]api.Page // what was put last
	may    map[uint32][][]byte // what a cut may leave in the sector
	moment uint64
}

// lifeOf begins a life on pages that hang on a seed.
func lifeOf(t *testing.T, seed uint64) *life {
	t.Helper()
	pick := picker(seed)
	v := &life{t: t, what: fmt.Sprintf("life %d", seed), pages: 5 + pick(20), frames: 8 + pick(3), pick: pick, is: map[uint32]api.Page{}, may: map[uint32][][]byte{}}
	v.place = placeOf(t, leastLog+pick(3), v.pages, v.frames)
	for number := uint32(1); number <= uint32(v.pages); number++ {
		v.is[number] = api.Page{}
		v.may[number] = [][]byte{make([]byte, size)}
	}
	return v
}

func (v *life) fail(format string, rest ...any) {
	v.t.Helper()
	v.t.Fatalf("%s: %s", v.what, fmt.Sprintf(format, rest...))
}

// goesOn tells whether the power is still there behind an answer; nothing else than its going is an error.
func (v *life) goesOn(e api.Errno) bool {
	v.t.Helper()
	if e != api.OK && (e != api.ErrDark || !v.d.Dark()) {
		v.fail("%d, dark %v", int(e), v.d.Dark())
	}
	return e == api.OK
}

// any is one of the pages.
func (v *life) any() uint32 { return uint32(1 + v.pick(v.pages)) }

// get asks for a page; it is as it was put last.
func (v *life) get(number uint32) bool {
	v.t.Helper()
	p, e := v.p.Get(number)
	if e == api.OK && !alike(p, v.is[number]) {
		v.fail("Get(%d): %+v, want %+v", number, p, v.is[number])
	}
	return v.goesOn(e)
}

// change logs a change of some pages, and puts them.
func (v *life) change() bool {
	v.t.Helper()
	if v.l.Room() < 4 {
		return v.check()
	}
	lsn := v.appends(v.t, 1)
	for range 1 + v.pick(3)*v.pick(3) {
		number := v.any()
		v.moment++
		to := someOf(v.moment, lsn)
		// A Put that the power breaks off may yet be what the sector has.
		v.may[number] = append(v.may[number], written(to))
		if !v.goesOn(v.p.Put(number, to)) {
			return false
		}
		v.is[number] = to
	}
	return true
}

// flush flushes the pool: from now on no cut takes anything of what was put.
func (v *life) flush() bool {
	v.t.Helper()
	if !v.goesOn(v.p.FlushAll()) {
		return false
	}
	for number, p := range v.is {
		v.may[number] = [][]byte{written(p)}
	}
	if len(v.p.Dirty()) > 0 {
		v.fail("Dirty %v behind FlushAll", v.p.Dirty())
	}
	return true
}

// check flushes the pool, and empties the log.
func (v *life) check() bool {
	v.t.Helper()
	return v.flush() && v.goesOn(v.l.Reset(uint32(v.moment)))
}

// step does something; whether the power is still there.
func (v *life) step() bool {
	v.t.Helper()
	switch x := v.pick(100); {
	case x < 45:
		return v.change()
	case x < 90:
		return v.get(v.any())
	case x < 94:
		return v.goesOn(v.l.Flush())
	case x < 97:
		return v.flush()
	case x < 99:
		return v.check()
	}
	return false // the power goes between two calls
}

// cut cuts the disk, and asks what P11.7 promises, of the sectors themselves.
func (v *life) cut() {
	v.t.Helper()
	odds := 1 + v.pick(3)
	var keep []bool
	for range v.d.Pending() {
		keep = append(keep, v.pick(odds) == 0)
	}
	v.d.Cut(keep...)
	image := v.d.Image()
	l, _, e := wal.Open(v.d)
	is(v.t, v.what, e, api.OK)
	for number := uint32(1); number <= uint32(v.pages); number++ {
		at := (l.Sectors() + int(number)) * size
		b := image[at : at+size]
		which := slices.IndexFunc(v.may[number], func(may []byte) bool { return bytes.Equal(may, b) })
		if which < 0 {
			v.fail("page %d has what it never was: %x", number, b)
		}
		if lsn := binary.LittleEndian.Uint64(b[6:]); lsn >= l.End() {
			v.fail("page %d has the LSN %d, and the log ends at %d", number, lsn, l.End())
		}
		v.may[number] = [][]byte{b}
	}
	v.comesBack()
}

// comesBack makes a new pool behind a cut: it tells what the sectors have.
func (v *life) comesBack() {
	v.t.Helper()
	v.place = v.anew(v.t, v.frames)
	for number := range v.is {
		p, e := v.p.Get(number)
		is(v.t, v.what, e, api.OK)
		if !bytes.Equal(written(p), v.may[number][0]) {
			v.fail("Get(%d) behind a cut: %+v", number, p)
		}
		v.is[number] = p
	}
	v.dirties(v.t)
}

// P11.6, P11.7: long lives with many cuts, whatever they keep.
func TestLives(t *testing.T) {
	for part := range uint64(8) {
		t.Run(fmt.Sprint(part), func(t *testing.T) {
			t.Parallel()
			cuts, steps := 0, 0
			for seed := range uint64(60) {
				v := lifeOf(t, part*1000+seed)
				for range 400 {
					steps++
					if v.pick(20) == 0 {
						v.d.Trip(v.pick(30))
					}
					if !v.step() {
						cuts++
						v.cut()
					}
				}
			}
			if cuts < 500 || steps < 20000 {
				t.Errorf("%d cuts in %d steps: not a test", cuts, steps)
			}
		})
	}
}

// P11.6: behind FlushAll and a cut of whatever kind a new pool tells the same, however many frames it has; what was got and appended in between plays no part.
func TestFlushedLasts(t *testing.T) {
	for seed := range uint64(300) {
		v := lifeOf(t, seed)
		for range 30 + v.pick(100) {
			v.change()
			v.get(v.any())
		}
		v.flush()
		if v.pick(2) == 0 {
			v.d.Trip(v.pick(8))
		}
		for range v.pick(30) {
			v.get(v.any())
		}
		v.appends(t, 1)
		v.goesOn(v.l.Flush())
		v.d.Cut(v.pick(2) == 0, v.pick(2) == 0, v.pick(2) == 0)
		v.place = v.anew(t, 8+v.pick(249))
		for number, want := range v.is {
			v.gets(t, number, want)
			v.place.lasts(t, int(number), written(want))
		}
	}
}

// P11.7: a page whose frame was wanted lasts or not as the cut wills, and so its record lasts ahead of it.
func TestLogAhead(t *testing.T) {
	for _, kept := range []bool{false, true} {
		x := placeOf(t, leastLog, 9, 8)
		lsn := x.appends(t, 3)
		x.puts(t, 1, heap(lsn))
		for number := uint32(2); number <= 9; number++ {
			x.gets(t, number, api.Page{})
		}
		if got := x.d.Pending(); got != 1 {
			t.Fatalf("%d writes in the cache", got)
		}
		x.d.Cut(kept)
		x = x.anew(t, 8)
		want := api.Page{}
		if kept {
			want = heap(lsn)
		}
		x.gets(t, 1, want)
		if x.l.End() != lsn+4 {
			t.Fatalf("the log ends at %d, behind %d", x.l.End(), lsn)
		}
	}
}
