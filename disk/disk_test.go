package disk

import (
	"bytes"
	"math"
	"slices"
	"testing"

	"cadastre/api"
)

// The numbers that the chapter names, written out, so that nothing of the program is in what the tests want.
const (
	size = 512
	most = 8192
)

// full is a sector of one byte.
func full(x byte) []byte { return bytes.Repeat([]byte{x}, size) }

// noise is n bytes that hang on a seed, unlike from place to place.
func noise(seed, n int) []byte {
	x := uint64(seed)*0x9E3779B97F4A7C15 + 88172645463325252
	b := make([]byte, n)
	for i := range b {
		x ^= x << 13
		x ^= x >> 7
		x ^= x << 17
		b[i] = byte(x >> 24)
	}
	return b
}

// fresh makes a disk of so many sectors.
func fresh(t *testing.T, sectors int) *Disk {
	t.Helper()
	d, e := New(sectors)
	if d == nil || e != api.OK {
		t.Fatalf("New(%d): %v, %d", sectors, d, int(e))
	}
	return d
}

// loaded makes a disk of an image.
func loaded(t *testing.T, image []byte) *Disk {
	t.Helper()
	d, e := Load(image)
	if d == nil || e != api.OK {
		t.Fatalf("Load of %d bytes: %v, %d", len(image), d, int(e))
	}
	return d
}

// reads asks what Read tells.
func reads(t *testing.T, d *Disk, at int, want []byte) {
	t.Helper()
	if b, e := d.Read(at); !bytes.Equal(b, want) || e != api.OK {
		t.Fatalf("Read(%d): %x, %d, want %x", at, b, int(e), want)
	}
}

// refuses asks that Read answers an error, and nothing beside it.
func refuses(t *testing.T, d *Disk, at int, want api.Errno) {
	t.Helper()
	if b, e := d.Read(at); len(b) != 0 || e != want {
		t.Fatalf("Read(%d): %x, %d, want %d", at, b, int(e), int(want))
	}
}

// writes asks what Write answers.
func writes(t *testing.T, d *Disk, at int, b []byte, want api.Errno) {
	t.Helper()
	before := slices.Clone(b)
	if e := d.Write(at, b); e != want {
		t.Fatalf("Write(%d) of %d bytes: %d, want %d", at, len(b), int(e), int(want))
	}
	if !bytes.Equal(before, b) {
		t.Fatalf("Write(%d) changed what it was handed", at)
	}
}

// syncs asks what Sync answers.
func syncs(t *testing.T, d *Disk, want api.Errno) {
	t.Helper()
	if e := d.Sync(); e != want {
		t.Fatalf("Sync: %d, want %d", int(e), int(want))
	}
}

// stands asks what a disk tells without an operation.
func stands(t *testing.T, d *Disk, pending int, dark bool, counts api.Counts) {
	t.Helper()
	if got := d.Pending(); got != pending {
		t.Fatalf("Pending: %d, want %d", got, pending)
	}
	if got := d.Dark(); got != dark {
		t.Fatalf("Dark: %v, want %v", got, dark)
	}
	if got := d.Counts(); got != counts {
		t.Fatalf("Counts: %+v, want %+v", got, counts)
	}
}

// lasts asks what Image tells: these sectors.
func lasts(t *testing.T, d *Disk, sectors ...[]byte) {
	t.Helper()
	want := bytes.Join(sectors, nil)
	if got := d.Image(); !bytes.Equal(got, want) {
		t.Fatalf("Image: %d bytes, want %d; the first unlike one at %d", len(got), len(want), unlikeAt(got, want))
	}
}

// unlikeAt is the first place at which two texts differ.
func unlikeAt(a, b []byte) int {
	for i := range min(len(a), len(b)) {
		if a[i] != b[i] {
			return i
		}
	}
	return min(len(a), len(b))
}

// darken lets the power of a disk go, with nothing done.
func darken(t *testing.T, d *Disk) {
	t.Helper()
	d.Trip(0)
	syncs(t, d, api.ErrDark)
	if !d.Dark() {
		t.Fatal("not dark behind a trip of 0 and a Sync")
	}
}

// The chapter's examples, one by one.
func TestExamples(t *testing.T) {
	x, y, z := full('x'), full('y'), full('z')
	for _, sectors := range []int{0, 8193} {
		if d, e := New(sectors); d != nil || e != api.ErrArg {
			t.Errorf("New(%d): %v, %d", sectors, d, int(e))
		}
	}
	if d, e := Load(make([]byte, 511)); d != nil || e != api.ErrForm {
		t.Errorf("Load(511 bytes): %v, %d", d, int(e))
	}
	d := fresh(t, 2)
	writes(t, d, 0, x, api.OK)
	writes(t, d, 0, y, api.OK)
	writes(t, d, 1, z, api.OK)
	stands(t, d, 3, false, api.Counts{Writes: 3})
	reads(t, d, 0, y)
	d.Cut(true, false, true)
	reads(t, d, 0, x)
	reads(t, d, 1, z)
	stands(t, d, 0, false, api.Counts{Reads: 3, Writes: 3})
	writes(t, d, 2, x, api.ErrRange)
	writes(t, d, 0, []byte{'x'}, api.ErrArg)
	d.Trip(1)
	syncs(t, d, api.OK)
	syncs(t, d, api.ErrDark)
	refuses(t, d, 0, api.ErrDark)
	stands(t, d, 0, true, api.Counts{Reads: 3, Writes: 3, Syncs: 1})
	d.Cut()
	stands(t, d, 0, false, api.Counts{Reads: 3, Writes: 3, Syncs: 1})
	reads(t, d, 0, x)
	stands(t, d, 0, false, api.Counts{Reads: 4, Writes: 3, Syncs: 1})
}

// P6.1: New makes a disk of 1 to 8192 sectors of noughts, with nothing in the cache, no trip, nothing counted.
func TestNew(t *testing.T) {
	for _, n := range []int{1, 2, 3, 16, 255, 256, 257, 4096, most - 1, most} {
		d := fresh(t, n)
		if got := d.Sectors(); got != n {
			t.Fatalf("Sectors of New(%d): %d", n, got)
		}
		stands(t, d, 0, false, api.Counts{})
		lasts(t, d, make([]byte, n*size))
		for at := range n {
			reads(t, d, at, full(0))
		}
		writes(t, d, n-1, full(7), api.OK)
		syncs(t, d, api.OK)
		stands(t, d, 0, false, api.Counts{Reads: n, Writes: 1, Syncs: 1})
		d.Cut()
		lasts(t, d, make([]byte, (n-1)*size), full(7))
	}
}

// P6.1: noughts last: a Cut leaves them, whatever it keeps.
func TestNewLasts(t *testing.T) {
	d := fresh(t, 3)
	d.Cut()
	lasts(t, d, make([]byte, 3*size))
	d.Cut(true, true, true, true)
	lasts(t, d, make([]byte, 3*size))
	stands(t, d, 0, false, api.Counts{})
}

// P6.1: numbers of which New makes none.
func TestNewNone(t *testing.T) {
	for _, n := range []int{math.MinInt, -1 << 32, -most, -2, -1, 0, most + 1, most + 2, 1 << 16, 1<<16 + 1, 1<<32 + 1, math.MaxInt - 1, math.MaxInt} {
		if d, e := New(n); d != nil || e != api.ErrArg {
			t.Errorf("New(%d): %v, %d", n, d, int(e))
		}
	}
}

// P6.1: Load makes a disk of these bytes, that last.
func TestLoad(t *testing.T) {
	for _, n := range []int{1, 2, 3, 17, 256, most - 1, most} {
		image := noise(n, n*size)
		before := slices.Clone(image)
		d := loaded(t, image)
		if got := d.Sectors(); got != n {
			t.Fatalf("Sectors of Load of %d: %d", n, got)
		}
		stands(t, d, 0, false, api.Counts{})
		lasts(t, d, image)
		for at := range n {
			reads(t, d, at, image[at*size:(at+1)*size])
		}
		d.Cut()
		lasts(t, d, image)
		stands(t, d, 0, false, api.Counts{Reads: n})
		if !bytes.Equal(image, before) {
			t.Fatalf("Load of %d sectors changed what it was handed", n)
		}
	}
}

// P6.1: lengths of which Load makes none: no sector, one that is not whole, too many.
func TestLoadNone(t *testing.T) {
	if d, e := Load(nil); d != nil || e != api.ErrForm {
		t.Errorf("Load(nil): %v, %d", d, int(e))
	}
	image := make([]byte, (most+2)*size)
	for _, n := range []int{0, 1, 2, 510, 511, 513, 514, 1023, 1025, 2*size - 1, 17*size + 256, most*size - 1, most*size + 1, most*size + 511, (most + 1) * size, (most+1)*size + 1, (most + 2) * size} {
		if d, e := Load(image[:n]); d != nil || e != api.ErrForm {
			t.Errorf("Load of %d bytes: %v, %d", n, d, int(e))
		}
	}
	for n := range 5 * size {
		if d, e := Load(image[:n]); (d != nil) != (e == api.OK) || (e == api.OK) != (n > 0 && n%size == 0) || e != api.OK && e != api.ErrForm {
			t.Errorf("Load of %d bytes: %v, %d", n, d, int(e))
		}
	}
}

// outside are places at which a disk of so many sectors has none.
func outside(sectors int) []int {
	return []int{math.MinInt, -1 << 32, -sectors, -1, sectors, sectors + 1, 2 * sectors, most + sectors, 1<<32 + sectors, 1 << 32, 1 << 40, math.MaxInt}
}

// unlike are lengths of which a Write takes no bytes.
func unlike() []int { return []int{0, 1, 2, 255, 256, 510, 511, 513, 514, 1023, 1024, 1 << 16} }

// P6.2: ErrRange comes first, of a Read and of a Write, whatever is written, on a disk that is dark or that has a trip too; it is no operation.
func TestRange(t *testing.T) {
	for _, n := range []int{1, 2, 5, 300} {
		for _, how := range []string{"new", "tripped", "dark", "written"} {
			d := fresh(t, n)
			counts, pending := api.Counts{}, 0
			switch how {
			case "tripped":
				d.Trip(0)
			case "dark":
				darken(t, d)
			case "written":
				writes(t, d, 0, full(3), api.OK)
				counts.Writes, pending = 1, 1
			}
			for _, at := range outside(n) {
				refuses(t, d, at, api.ErrRange)
				writes(t, d, at, full(1), api.ErrRange)
				writes(t, d, at, nil, api.ErrRange)
				for _, length := range unlike() {
					writes(t, d, at, make([]byte, length), api.ErrRange)
				}
				stands(t, d, pending, how == "dark", counts)
			}
			lasts(t, d, make([]byte, n*size))
		}
	}
}

// P6.2: the first sector and the last one, and those between, are read and written; each for itself.
func TestPlaces(t *testing.T) {
	for _, n := range []int{1, 2, 5, 300} {
		d := fresh(t, n)
		want := make([][]byte, n)
		for at := range n {
			want[at] = noise(at, size)
			writes(t, d, at, want[at], api.OK)
			stands(t, d, at+1, false, api.Counts{Reads: at, Writes: at + 1})
			reads(t, d, at, want[at])
		}
		lasts(t, d, make([]byte, n*size))
		for at := range n {
			reads(t, d, at, want[at])
		}
		syncs(t, d, api.OK)
		lasts(t, d, want...)
		stands(t, d, 0, false, api.Counts{Reads: 2 * n, Writes: n, Syncs: 1})
		for at := range n {
			reads(t, d, at, want[at])
		}
	}
}

// P6.2: ErrArg comes behind ErrRange and ahead of ErrDark and of the trip; it is no operation.
func TestArg(t *testing.T) {
	for _, how := range []string{"new", "tripped", "dark", "written"} {
		d := fresh(t, 3)
		counts, pending := api.Counts{}, 0
		switch how {
		case "tripped":
			d.Trip(0)
		case "dark":
			darken(t, d)
		case "written":
			writes(t, d, 0, full(3), api.OK)
			counts.Writes, pending = 1, 1
		}
		for at := range 3 {
			writes(t, d, at, nil, api.ErrArg)
			for _, length := range unlike() {
				writes(t, d, at, bytes.Repeat([]byte{9}, length), api.ErrArg)
			}
			stands(t, d, pending, how == "dark", counts)
		}
		lasts(t, d, make([]byte, 3*size))
		d.Cut(true)
		if how == "written" {
			lasts(t, d, full(3), full(0), full(0))
		} else {
			lasts(t, d, make([]byte, 3*size))
		}
	}
}

// P6.2: of every length up to some sectors just PageSize is taken.
func TestLengths(t *testing.T) {
	d := fresh(t, 1)
	b := noise(5, 3*size)
	for n := range len(b) + 1 {
		if n != size {
			writes(t, d, 0, b[:n], api.ErrArg)
		}
	}
	stands(t, d, 0, false, api.Counts{})
	writes(t, d, 0, b[:size], api.OK)
	reads(t, d, 0, b[:size])
}

// P6.2: a dark disk does nothing: neither of what is in the cache, nor of what lasts, nor of what is counted is there any change.
func TestDarkDoesNothing(t *testing.T) {
	d := fresh(t, 2)
	writes(t, d, 0, full(1), api.OK)
	syncs(t, d, api.OK)
	writes(t, d, 1, full(2), api.OK)
	darken(t, d)
	counts := api.Counts{Writes: 2, Syncs: 1}
	for range 4 {
		refuses(t, d, 0, api.ErrDark)
		refuses(t, d, 1, api.ErrDark)
		writes(t, d, 0, full(9), api.ErrDark)
		writes(t, d, 1, full(9), api.ErrDark)
		syncs(t, d, api.ErrDark)
		stands(t, d, 1, true, counts)
		lasts(t, d, full(1), full(0))
		if got := d.Sectors(); got != 2 {
			t.Fatalf("Sectors of a dark disk: %d", got)
		}
	}
	d.Cut(true)
	stands(t, d, 0, false, counts)
	lasts(t, d, full(1), full(2))
	reads(t, d, 1, full(2))
}

// P6.2: the sector is as it was written last, whether it was synced, and however often it was written.
func TestReadNewest(t *testing.T) {
	d := fresh(t, 3)
	for i := range 200 {
		at := i * i % 3
		writes(t, d, at, noise(i, size), api.OK)
		reads(t, d, at, noise(i, size))
		if i%37 == 36 {
			syncs(t, d, api.OK)
			reads(t, d, at, noise(i, size))
		}
	}
	// i*i is 0 or 1 by three: the sector 2 was never written.
	reads(t, d, 0, noise(198, size))
	reads(t, d, 1, noise(199, size))
	reads(t, d, 2, full(0))
	stands(t, d, 200%37, false, api.Counts{Reads: 208, Writes: 200, Syncs: 5})
}

// P6.2: of a sector that was written more than once the last one lasts behind a Sync; and behind a Cut what was synced.
func TestSync(t *testing.T) {
	d := loaded(t, noise(1, 2*size))
	old := noise(1, 2*size)
	writes(t, d, 0, full(1), api.OK)
	writes(t, d, 0, full(2), api.OK)
	writes(t, d, 0, full(3), api.OK)
	lasts(t, d, old)
	syncs(t, d, api.OK)
	stands(t, d, 0, false, api.Counts{Writes: 3, Syncs: 1})
	lasts(t, d, full(3), old[size:])
	writes(t, d, 0, full(4), api.OK)
	lasts(t, d, full(3), old[size:])
	d.Cut()
	lasts(t, d, full(3), old[size:])
	reads(t, d, 0, full(3))
	reads(t, d, 1, old[size:])
	// A Sync of an empty cache is one all the same.
	for range 3 {
		syncs(t, d, api.OK)
	}
	stands(t, d, 0, false, api.Counts{Reads: 2, Writes: 4, Syncs: 4})
	lasts(t, d, full(3), old[size:])
}

// P6.2: what is counted is what was done, each by its kind, and nothing else is.
func TestCounts(t *testing.T) {
	d := fresh(t, 2)
	want := api.Counts{}
	for i := range 30 {
		reads(t, d, 1, full(0))
		want.Reads++
		stands(t, d, 3*i, false, want)
		for range 3 {
			writes(t, d, 0, noise(i, size), api.OK)
			want.Writes++
		}
		stands(t, d, 3*i+3, false, want)
		refuses(t, d, 2, api.ErrRange)
		writes(t, d, 2, full(1), api.ErrRange)
		writes(t, d, 1, nil, api.ErrArg)
		d.Image()
		d.Sectors()
		d.Trip(5)
		d.Trip(-1)
		stands(t, d, 3*i+3, false, want)
	}
	for range 7 {
		syncs(t, d, api.OK)
		want.Syncs++
		stands(t, d, 0, false, want)
	}
	d.Cut()
	d.Cut(true)
	stands(t, d, 0, false, want)
}
