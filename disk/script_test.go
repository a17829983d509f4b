package disk

import (
	"bytes"
	"slices"
	"testing"

	"cadastre/api"
)

// mirror is a disk by the chapter's words alone: the sectors as they last, and a list of all writes since.
type mirror struct {
	lasting [][]byte
	cache   []put
	tripped bool
	trip    int
	dark    bool
	counts  api.Counts
}

// put is a write of the mirror.
type put struct {
	at int
	b  []byte
}

// mirrorOf is the mirror of a disk of noughts.
func mirrorOf(sectors int) *mirror {
	m := &mirror{}
	for range sectors {
		m.lasting = append(m.lasting, full(0))
	}
	return m
}

// twin is another mirror that stands as this one.
func (m *mirror) twin() *mirror {
	other := *m
	other.lasting, other.cache = slices.Clone(m.lasting), slices.Clone(m.cache)
	return &other
}

// comes is what P6.2 says of an operation; whether it is done.
func (m *mirror) comes() bool {
	if !m.dark && m.tripped && m.trip == 0 {
		m.dark, m.tripped = true, false
	}
	if m.dark {
		return false
	}
	if m.tripped {
		m.trip--
	}
	return true
}

// told is the sector as it was written last.
func (m *mirror) told(at int) []byte {
	b := m.lasting[at]
	for _, w := range m.cache {
		if w.at == at {
			b = w.b
		}
	}
	return b
}

// settle lets the writes last that are kept.
func (m *mirror) settle(kept func(i int) bool) {
	for i, w := range m.cache {
		if kept(i) {
			m.lasting[w.at] = w.b
		}
	}
	m.cache = nil
}

// step is a call of a script: done to a disk and to its mirror, it asks that both answer the same.
type step func(t *testing.T, d *Disk, m *mirror)

func readStep(at int) step {
	return func(t *testing.T, d *Disk, m *mirror) {
		switch {
		case at < 0 || at >= len(m.lasting):
			refuses(t, d, at, api.ErrRange)
		case !m.comes():
			refuses(t, d, at, api.ErrDark)
		default:
			m.counts.Reads++
			reads(t, d, at, m.told(at))
		}
	}
}

func writeStep(at int, b []byte) step {
	return func(t *testing.T, d *Disk, m *mirror) {
		switch {
		case at < 0 || at >= len(m.lasting):
			writes(t, d, at, b, api.ErrRange)
		case len(b) != size:
			writes(t, d, at, b, api.ErrArg)
		case !m.comes():
			writes(t, d, at, b, api.ErrDark)
		default:
			m.counts.Writes++
			m.cache = append(m.cache, put{at, b})
			writes(t, d, at, b, api.OK)
		}
	}
}

func syncStep() step {
	return func(t *testing.T, d *Disk, m *mirror) {
		if !m.comes() {
			syncs(t, d, api.ErrDark)
			return
		}
		m.counts.Syncs++
		m.settle(func(int) bool { return true })
		syncs(t, d, api.OK)
	}
}

func tripStep(n int) step {
	return func(t *testing.T, d *Disk, m *mirror) {
		m.tripped, m.trip = n >= 0, n
		d.Trip(n)
	}
}

func cutStep(keep ...bool) step {
	return func(t *testing.T, d *Disk, m *mirror) {
		m.settle(func(i int) bool { return i < len(keep) && keep[i] })
		m.dark, m.tripped = false, false
		d.Cut(keep...)
	}
}

// alike asks that a disk tells what its mirror does, with no operation.
func alike(t *testing.T, d *Disk, m *mirror) {
	t.Helper()
	if got := d.Sectors(); got != len(m.lasting) {
		t.Fatalf("Sectors: %d, want %d", got, len(m.lasting))
	}
	stands(t, d, len(m.cache), m.dark, m.counts)
	lasts(t, d, m.lasting...)
}

// P6.1 to P6.7: every script of four calls, of those that mean something on a disk of two sectors.
func TestShortScripts(t *testing.T) {
	steps := []step{
		readStep(0), readStep(1), readStep(2), writeStep(0, full(1)), writeStep(0, full(2)), writeStep(1, full(3)), writeStep(1, full(4)[:511]), syncStep(),
		tripStep(0), tripStep(1), tripStep(2), tripStep(-1), cutStep(), cutStep(true), cutStep(false, true), cutStep(true, true, true),
	}
	const length = 4
	script := make([]int, length)
	for {
		d, m := fresh(t, 2), mirrorOf(2)
		for _, s := range script {
			steps[s](t, d, m)
			alike(t, d, m)
		}
		syncStep()(t, d, m)
		readStep(0)(t, d, m)
		readStep(1)(t, d, m)
		alike(t, d, m)
		at := 0
		for at < length && script[at] == len(steps)-1 {
			script[at] = 0
			at++
		}
		if at == length {
			return
		}
		script[at]++
	}
}

// picker answers numbers below n that hang on a seed.
func picker(seed int) func(n int) int {
	x := uint64(seed)*0x9E3779B97F4A7C15 + 88172645463325252
	return func(n int) int {
		x ^= x << 13
		x ^= x >> 7
		x ^= x << 17
		return int(x >> 33 % uint64(n))
	}
}

// someKeeps are keeps of up to more than so many writes.
func someKeeps(pick func(n int) int, writes int) []bool {
	keep := make([]bool, pick(writes+3))
	for i := range keep {
		keep[i] = pick(2) == 1
	}
	return keep
}

// someStep is a call of a long script on a disk of so many sectors; the bytes of its write are unlike those of every other.
func someStep(pick func(n int) int, sectors, serial, pending int) step {
	switch k := pick(40); {
	case k < 14:
		return readStep(pick(sectors+2) - 1)
	case k < 28:
		return writeStep(pick(sectors+2)-1, noise(serial, size))
	case k < 29:
		return writeStep(pick(sectors+2)-1, noise(serial, size+1-2*pick(2)))
	case k < 33:
		return syncStep()
	case k < 36:
		return tripStep(pick(30) - 3)
	default:
		return cutStep(someKeeps(pick, pending)...)
	}
}

// P6.1 to P6.7: long scripts, on disks of some sectors.
func TestLongScripts(t *testing.T) {
	for seed := range 60 {
		pick := picker(seed)
		sectors := pick(12) + 1
		d, m := fresh(t, sectors), mirrorOf(sectors)
		for serial := range 400 {
			someStep(pick, sectors, serial, len(m.cache))(t, d, m)
			alike(t, d, m)
		}
	}
}

// P6.6: behind a Cut each sector has what it had behind the last Sync, or one of the writes since; what was not written since is as it was.
func TestBehindCut(t *testing.T) {
	for seed := range 60 {
		pick := picker(1000 + seed)
		sectors := pick(6) + 1
		d, m := fresh(t, sectors), mirrorOf(sectors)
		for serial := range 300 {
			may := make([][][]byte, sectors)
			for at := range may {
				may[at] = append(may[at], m.lasting[at])
			}
			for _, w := range m.cache {
				may[w.at] = append(may[w.at], w.b)
			}
			someStep(pick, sectors, serial, len(m.cache))(t, d, m)
			image := d.Image()
			for at := range may {
				b := image[at*size : (at+1)*size]
				if !slices.ContainsFunc(may[at], func(c []byte) bool { return bytes.Equal(b, c) }) {
					t.Fatalf("seed %d, step %d: the sector %d has what it never had since the last Sync", seed, serial, at)
				}
			}
		}
	}
}

// P6.7: with a trip of n a disk does the same as one without, as long as fewer than n + 1 operations have come; all behind are ErrDark.
func TestWithTrip(t *testing.T) {
	for seed := range 40 {
		for n := range 25 {
			pick := picker(2000 + seed)
			d, m := fresh(t, 3), mirrorOf(3)
			d.Trip(n)
			for serial := 0; m.counts.Reads+m.counts.Writes+m.counts.Syncs < n; serial++ {
				[]func(){
					func() { readStep(pick(5)-1)(t, d, m) },
					func() { writeStep(pick(5)-1, noise(serial, size-pick(2)))(t, d, m) },
					func() { syncStep()(t, d, m) },
				}[pick(3)]()
				alike(t, d, m)
			}
			for range 6 {
				refuses(t, d, pick(3), api.ErrDark)
				writes(t, d, pick(3), full(1), api.ErrDark)
				syncs(t, d, api.ErrDark)
			}
			m.dark = true
			alike(t, d, m)
			keep := someKeeps(pick, len(m.cache))
			cutStep(keep...)(t, d, m)
			alike(t, d, m)
		}
	}
}

// P6.8: behind a script, Load(Image()) does whatever the disk does behind Cut(), but for what was counted before.
func TestLoadedTwin(t *testing.T) {
	for seed := range 40 {
		pick := picker(3000 + seed)
		d, m := fresh(t, 4), mirrorOf(4)
		for serial := range 60 {
			someStep(pick, 4, serial, len(m.cache))(t, d, m)
		}
		other := loaded(t, d.Image())
		cutStep()(t, d, m)
		of := m.twin()
		of.counts = api.Counts{}
		alike(t, other, of)
		for serial := range 200 {
			s := someStep(pick, 4, 1000+serial, len(m.cache))
			s(t, d, m)
			s(t, other, of)
			alike(t, d, m)
			alike(t, other, of)
			lasts(t, other, d.Image())
		}
	}
}
