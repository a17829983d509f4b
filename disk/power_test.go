package disk

import (
	"bytes"
	"math"
	"slices"
	"testing"

	"cadastre/api"
)

// three are the operations: each answers its error, and what it would count.
func three() []struct {
	name  string
	do    func(d *Disk) api.Errno
	count api.Counts
} {
	return []struct {
		name  string
		do    func(d *Disk) api.Errno
		count api.Counts
	}{
		{"Read", func(d *Disk) api.Errno { _, e := d.Read(0); return e }, api.Counts{Reads: 1}},
		{"Write", func(d *Disk) api.Errno { return d.Write(0, full(9)) }, api.Counts{Writes: 1}},
		{"Sync", func(d *Disk) api.Errno { return d.Sync() }, api.Counts{Syncs: 1}},
	}
}

// P6.2, P6.3, P6.7: a trip of n lets n operations be done, of whatever kind; the one behind them is ErrDark, and so are all till the Cut.
func TestTrip(t *testing.T) {
	for n := range 12 {
		for _, at := range three() {
			for _, ahead := range three() {
				d := fresh(t, 2)
				d.Trip(n)
				for i := range n {
					if e := ahead.do(d); e != api.OK || d.Dark() {
						t.Fatalf("trip of %d, %s %d: %d, dark %v", n, ahead.name, i, int(e), d.Dark())
					}
				}
				counts, pending, image := d.Counts(), d.Pending(), d.Image()
				if want := (api.Counts{Reads: n * ahead.count.Reads, Writes: n * ahead.count.Writes, Syncs: n * ahead.count.Syncs}); counts != want {
					t.Fatalf("trip of %d, behind %d of %s: %+v, want %+v", n, n, ahead.name, counts, want)
				}
				for range 3 {
					if e := at.do(d); e != api.ErrDark {
						t.Fatalf("trip of %d, %s behind %d of %s: %d", n, at.name, n, ahead.name, int(e))
					}
					stands(t, d, pending, true, counts)
					lasts(t, d, image)
				}
				for _, other := range three() {
					if e := other.do(d); e != api.ErrDark {
						t.Fatalf("%s of a dark disk: %d", other.name, int(e))
					}
				}
				stands(t, d, pending, true, counts)
				d.Cut()
				for range 3 {
					for _, other := range three() {
						if e := other.do(d); e != api.OK {
							t.Fatalf("%s behind a Cut: %d", other.name, int(e))
						}
					}
				}
			}
		}
	}
}

// P6.2: what comes when the power goes is not done: the write is not in the cache, the sync makes nothing last, the read answers nothing.
func TestTripNotDone(t *testing.T) {
	for _, at := range three() {
		d := fresh(t, 1)
		writes(t, d, 0, full(1), api.OK)
		syncs(t, d, api.OK)
		writes(t, d, 0, full(2), api.OK)
		d.Trip(0)
		stands(t, d, 1, false, api.Counts{Writes: 2, Syncs: 1})
		if e := at.do(d); e != api.ErrDark {
			t.Fatalf("%s: %d", at.name, int(e))
		}
		stands(t, d, 1, true, api.Counts{Writes: 2, Syncs: 1})
		lasts(t, d, full(1))
		d.Cut(true, true)
		lasts(t, d, full(2))
		reads(t, d, 0, full(2))
	}
	d := fresh(t, 1)
	d.Trip(0)
	refuses(t, d, 0, api.ErrDark)
}

// P6.3: with a trip below 0 there is none, and the one that there was is gone.
func TestTripNone(t *testing.T) {
	for _, n := range []int{-1, -2, -512, -1 << 32, math.MinInt} {
		for _, before := range []int{-3, 0, 1, 5, math.MaxInt} {
			d := fresh(t, 1)
			d.Trip(before)
			d.Trip(n)
			for range 20 {
				for _, op := range three() {
					if e := op.do(d); e != api.OK || d.Dark() {
						t.Fatalf("Trip(%d), Trip(%d), %s: %d", before, n, op.name, int(e))
					}
				}
			}
			stands(t, d, 0, false, api.Counts{Reads: 20, Writes: 20, Syncs: 20})
		}
	}
}

// P6.3: a trip of many is one: as many operations are done.
func TestTripMany(t *testing.T) {
	for _, n := range []int{255, 256, 257, 1000, 70000} {
		d := fresh(t, 1)
		d.Trip(n)
		for i := range n {
			if _, e := d.Read(0); e != api.OK {
				t.Fatalf("Trip(%d), Read %d: %d", n, i, int(e))
			}
		}
		stands(t, d, 0, false, api.Counts{Reads: n})
		refuses(t, d, 0, api.ErrDark)
		stands(t, d, 0, true, api.Counts{Reads: n})
	}
	for _, n := range []int{1 << 31, 1<<32 - 1, 1 << 32, 1<<32 + 1, math.MaxInt} {
		d := fresh(t, 1)
		d.Trip(n)
		for range 100 {
			syncs(t, d, api.OK)
		}
		stands(t, d, 0, false, api.Counts{Syncs: 100})
	}
}

// P6.3: of two trips the later one holds, also where some operations have come since the first.
func TestTripTwice(t *testing.T) {
	for first := range 5 {
		for ahead := range first + 1 {
			for second := range 5 {
				d := fresh(t, 1)
				d.Trip(first)
				for range ahead {
					syncs(t, d, api.OK)
				}
				d.Trip(second)
				for range second {
					syncs(t, d, api.OK)
				}
				stands(t, d, 0, false, api.Counts{Syncs: ahead + second})
				syncs(t, d, api.ErrDark)
				stands(t, d, 0, true, api.Counts{Syncs: ahead + second})
			}
		}
	}
}

// P6.3: a trip set on a dark disk says nothing of it: it stays dark; and the Cut takes the trip away.
func TestTripDark(t *testing.T) {
	for _, n := range []int{math.MinInt, -1, 0, 1, 2, 100, math.MaxInt} {
		d := fresh(t, 1)
		writes(t, d, 0, full(1), api.OK)
		darken(t, d)
		d.Trip(n)
		for range 5 {
			syncs(t, d, api.ErrDark)
			refuses(t, d, 0, api.ErrDark)
			writes(t, d, 0, full(2), api.ErrDark)
			stands(t, d, 1, true, api.Counts{Writes: 1})
		}
		d.Trip(n)
		d.Cut()
		stands(t, d, 0, false, api.Counts{Writes: 1})
		for range 5 {
			syncs(t, d, api.OK)
		}
		stands(t, d, 0, false, api.Counts{Writes: 1, Syncs: 5})
	}
}

// P6.2: when the power has gone there is no trip any more: the next one is that which is set behind the Cut.
func TestTripOnce(t *testing.T) {
	d := fresh(t, 1)
	for n := range 6 {
		d.Trip(n)
		for range n {
			syncs(t, d, api.OK)
		}
		syncs(t, d, api.ErrDark)
		syncs(t, d, api.ErrDark)
		d.Cut()
		syncs(t, d, api.OK)
	}
}

// P6.2: what is refused by ErrRange or ErrArg is no operation: it takes nothing of a trip, and does not let the power go.
func TestTripRefused(t *testing.T) {
	for n := range 5 {
		d := fresh(t, 2)
		d.Trip(n)
		bad := func() {
			for _, at := range outside(2) {
				refuses(t, d, at, api.ErrRange)
				writes(t, d, at, full(1), api.ErrRange)
				writes(t, d, at, nil, api.ErrRange)
			}
			for _, length := range unlike() {
				writes(t, d, 1, make([]byte, length), api.ErrArg)
			}
		}
		for range n {
			bad()
			syncs(t, d, api.OK)
		}
		bad()
		stands(t, d, 0, false, api.Counts{Syncs: n})
		syncs(t, d, api.ErrDark)
		bad()
		stands(t, d, 0, true, api.Counts{Syncs: n})
	}
}

// P6.2, P6.5: what tells without an operation takes nothing of a trip, and a trip of 0 does not let the power go by itself.
func TestTripUnasked(t *testing.T) {
	for n := range 3 {
		d := fresh(t, 2)
		d.Trip(n)
		for range 10 {
			d.Image()
			d.Pending()
			d.Counts()
			d.Sectors()
			if d.Dark() {
				t.Fatalf("dark by a trip of %d alone", n)
			}
		}
		for range n {
			syncs(t, d, api.OK)
		}
		syncs(t, d, api.ErrDark)
	}
}

// pattern is a list of keeps by the bits of a number.
func pattern(bits, n int) []bool {
	keep := make([]bool, n)
	for i := range keep {
		keep[i] = bits>>i%2 == 1
	}
	return keep
}

// P6.4, P6.6: of the writes in the cache just those last whose keep is true, in their order: every list of keeps, with fewer and with more than there are writes, on a disk that is bright, dark, or has a trip.
func TestCut(t *testing.T) {
	places := []int{0, 1, 0, 2, 1, 0}
	for _, how := range []string{"bright", "dark", "tripped"} {
		for n := range len(places) + 3 {
			for bits := range 1 << n {
				d := loaded(t, noise(4, 4*size))
				want := [][]byte{noise(4, 4*size)[:size], noise(4, 4*size)[size : 2*size], noise(4, 4*size)[2*size : 3*size], noise(4, 4*size)[3*size:]}
				writes(t, d, 1, full(99), api.OK)
				syncs(t, d, api.OK)
				want[1] = full(99)
				keep := pattern(bits, n)
				for i, at := range places {
					writes(t, d, at, full(byte(i+1)), api.OK)
					if i < n && keep[i] {
						want[at] = full(byte(i + 1))
					}
				}
				switch how {
				case "dark":
					darken(t, d)
				case "tripped":
					d.Trip(2)
				}
				counts := d.Counts()
				d.Cut(keep...)
				if !slices.Equal(keep, pattern(bits, n)) {
					t.Fatalf("Cut(%v) of a disk that was %s changed what it was handed", pattern(bits, n), how)
				}
				stands(t, d, 0, false, counts)
				lasts(t, d, want...)
				for at := range want {
					reads(t, d, at, want[at])
				}
				d.Cut(true, true, true, true, true, true)
				lasts(t, d, want...)
				syncs(t, d, api.OK)
				lasts(t, d, want...)
			}
		}
	}
}

// P6.4: a Cut takes a trip away, of a disk that is not dark too.
func TestCutTrip(t *testing.T) {
	for _, n := range []int{0, 1, 2, 50, math.MaxInt} {
		for _, keep := range [][]bool{nil, {}, {true}, {false}, {true, true}} {
			d := fresh(t, 1)
			d.Trip(n)
			d.Cut(keep...)
			for range 60 {
				syncs(t, d, api.OK)
			}
			stands(t, d, 0, false, api.Counts{Syncs: 60})
		}
	}
}

// P6.4: an empty cache: whatever is kept, nothing changes; a second Cut is nothing more.
func TestCutEmpty(t *testing.T) {
	d := loaded(t, noise(8, 2*size))
	for n := range 5 {
		d.Cut(pattern(1<<n-1, n)...)
		lasts(t, d, noise(8, 2*size))
		stands(t, d, 0, false, api.Counts{})
	}
	d.Cut(make([]bool, 1<<16)...)
	d.Cut(slices.Repeat([]bool{true}, 1<<16)...)
	lasts(t, d, noise(8, 2*size))
}

// P6.4: what was lost is lost: neither a later Sync nor a later Cut brings it back; what comes then is kept by its own places.
func TestCutLost(t *testing.T) {
	d := fresh(t, 2)
	for i := range 5 {
		writes(t, d, i%2, full(byte(i+1)), api.OK)
	}
	d.Cut()
	reads(t, d, 0, full(0))
	reads(t, d, 1, full(0))
	writes(t, d, 1, full(7), api.OK)
	reads(t, d, 0, full(0))
	stands(t, d, 1, false, api.Counts{Reads: 3, Writes: 6})
	d.Cut(true, true, true, true, true)
	lasts(t, d, full(0), full(7))
	writes(t, d, 0, full(8), api.OK)
	syncs(t, d, api.OK)
	lasts(t, d, full(8), full(7))
}

// P6.6: with all keeps true each sector is as Read told it.
func TestCutAll(t *testing.T) {
	for n := range 40 {
		d := loaded(t, noise(n, 5*size))
		for i := range n {
			writes(t, d, i*i*7%5, noise(100+i, size), api.OK)
		}
		var told [][]byte
		for at := range 5 {
			b, e := d.Read(at)
			if e != api.OK {
				t.Fatalf("Read(%d): %d", at, int(e))
			}
			told = append(told, b)
		}
		d.Cut(slices.Repeat([]bool{true}, n+n%3)...)
		lasts(t, d, told...)
		for at := range 5 {
			reads(t, d, at, told[at])
		}
	}
}

// P6.5: Image tells what lasts, with writes in the cache, dark and not; it is no operation, and changes nothing.
func TestImage(t *testing.T) {
	old := noise(2, 3*size)
	d := loaded(t, old)
	writes(t, d, 0, full(1), api.OK)
	writes(t, d, 2, full(2), api.OK)
	for range 3 {
		lasts(t, d, old)
	}
	stands(t, d, 2, false, api.Counts{Writes: 2})
	reads(t, d, 0, full(1))
	d.Trip(1)
	lasts(t, d, old)
	syncs(t, d, api.OK)
	lasts(t, d, full(1), old[size:2*size], full(2))
	writes(t, d, 1, full(3), api.ErrDark)
	for range 3 {
		lasts(t, d, full(1), old[size:2*size], full(2))
	}
	stands(t, d, 0, true, api.Counts{Reads: 1, Writes: 2, Syncs: 1})
}

// P6.8: Load(Image()) is a disk that stands as this one behind Cut(): of a disk that is bright, dark, tripped, with writes in the cache.
func TestLoadImage(t *testing.T) {
	for i := range 24 {
		d := loaded(t, noise(i, 3*size))
		for j := range i {
			writes(t, d, j%3, noise(i*j, size), api.OK)
			if j == i/2 {
				syncs(t, d, api.OK)
			}
		}
		switch i % 3 {
		case 1:
			darken(t, d)
		case 2:
			d.Trip(i)
		}
		other := loaded(t, d.Image())
		d.Cut()
		if other.Sectors() != d.Sectors() || other.Pending() != d.Pending() || other.Dark() != d.Dark() {
			t.Fatalf("loaded: %d, %d, %v; cut: %d, %d, %v", other.Sectors(), other.Pending(), other.Dark(), d.Sectors(), d.Pending(), d.Dark())
		}
		lasts(t, other, d.Image())
		stands(t, other, 0, false, api.Counts{})
		for j := range 40 {
			for at := range 3 {
				b, e := d.Read(at)
				if e != api.OK {
					t.Fatalf("Read(%d): %d", at, int(e))
				}
				reads(t, other, at, b)
			}
			writes(t, d, j%3, noise(j, size), api.OK)
			writes(t, other, j%3, noise(j, size), api.OK)
			lasts(t, other, d.Image())
		}
	}
}

// P6.5: what is handed in is not kept: what the caller changes in it then changes no disk; what stands behind its length is nothing to it.
func TestNotKept(t *testing.T) {
	image := noise(1, 4*size)
	d := loaded(t, image[:2*size])
	want := noise(1, 4*size)[:2*size]
	clear(image)
	lasts(t, d, want)
	reads(t, d, 0, want[:size])

	buffer := noise(2, 3*size)
	writes(t, d, 0, buffer[:size], api.OK)
	if !bytes.Equal(buffer, noise(2, 3*size)) {
		t.Fatal("Write changed what stands behind its bytes")
	}
	clear(buffer)
	reads(t, d, 0, noise(2, 3*size)[:size])
	syncs(t, d, api.OK)
	for i := range buffer {
		buffer[i] = 0xEE
	}
	reads(t, d, 0, noise(2, 3*size)[:size])
	lasts(t, d, noise(2, 3*size)[:size], want[size:])

	keep := []bool{false, true}
	writes(t, d, 0, full(1), api.OK)
	writes(t, d, 1, full(2), api.OK)
	d.Cut(keep...)
	keep[0], keep[1] = true, false
	lasts(t, d, noise(2, 3*size)[:size], full(2))
	// What stands behind the keeps' length is no keep.
	writes(t, d, 0, full(5), api.OK)
	writes(t, d, 1, full(6), api.OK)
	d.Cut([]bool{false, true, true}[:1]...)
	lasts(t, d, noise(2, 3*size)[:size], full(2))
}

// spoil changes a text, up to the end of the memory that it has.
func spoil(b []byte) {
	b = b[:cap(b)]
	for i := range b {
		b[i] ^= 0xA5
	}
}

// P6.5: what is answered is new memory: what the caller changes in it changes no disk, and no other answer.
func TestNewMemory(t *testing.T) {
	d := loaded(t, noise(3, 3*size))
	want := noise(3, 3*size)
	writes(t, d, 1, full(1), api.OK)
	for range 3 {
		for at, sector := range [][]byte{want[:size], full(1), want[2*size:]} {
			first, _ := d.Read(at)
			second, _ := d.Read(at)
			spoil(first)
			if !bytes.Equal(second, sector) {
				t.Fatalf("two answers of Read(%d) share their memory", at)
			}
			spoil(second)
			reads(t, d, at, sector)
		}
		first, second := d.Image(), d.Image()
		spoil(first)
		if !bytes.Equal(second, want) {
			t.Fatal("two answers of Image share their memory")
		}
		spoil(second)
		lasts(t, d, want)
	}
	told, _ := d.Read(1)
	image := d.Image()
	writes(t, d, 1, full(2), api.OK)
	syncs(t, d, api.OK)
	if !bytes.Equal(told, full(1)) || !bytes.Equal(image, want) {
		t.Fatal("what was answered changed with the disk")
	}
	lasts(t, d, want[:size], full(2), want[2*size:])
}

// P1, P6.2: two disks have nothing to do with one another.
func TestTwoDisks(t *testing.T) {
	a, b := fresh(t, 2), fresh(t, 2)
	writes(t, a, 0, full(1), api.OK)
	a.Trip(0)
	syncs(t, b, api.OK)
	stands(t, b, 0, false, api.Counts{Syncs: 1})
	syncs(t, a, api.ErrDark)
	writes(t, b, 1, full(2), api.OK)
	reads(t, b, 0, full(0))
	b.Cut()
	stands(t, a, 1, true, api.Counts{Writes: 1})
	a.Cut(true)
	lasts(t, a, full(1), full(0))
	lasts(t, b, full(0), full(0))
}

// P6.5: a nil Disk, and one that no call made, in each of the calls, again and again: nothing that is done to it makes it one.
func TestNoDisk(t *testing.T) {
	var none *Disk
	for _, d := range []*Disk{none, {}, new(Disk)} {
		for range 3 {
			if n := d.Sectors(); n != 0 {
				t.Fatalf("Sectors: %d", n)
			}
			stands(t, d, 0, false, api.Counts{})
			if image := d.Image(); len(image) != 0 {
				t.Fatalf("Image: %x", image)
			}
			for _, at := range []int{math.MinInt, -1, 0, 1, most, math.MaxInt} {
				refuses(t, d, at, api.ErrRange)
				writes(t, d, at, full(1), api.ErrRange)
				writes(t, d, at, nil, api.ErrRange)
				writes(t, d, at, full(1)[:511], api.ErrRange)
			}
			syncs(t, d, api.ErrDark)
			for _, n := range []int{-1, 0, 1, 5} {
				d.Trip(n)
				syncs(t, d, api.ErrDark)
				stands(t, d, 0, false, api.Counts{})
			}
			d.Cut()
			d.Cut(false)
			d.Cut(true, true)
			syncs(t, d, api.ErrDark)
			d.Trip(0)
		}
	}
}
