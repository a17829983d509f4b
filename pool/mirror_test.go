package pool

import (
	"bytes"
	"fmt"
	"maps"
	"slices"
	"testing"

	"cadastre/api"
	"cadastre/disk"
)

// op is an operation on a disk: a Read, a Write of these bytes, a Sync.
type op struct {
	kind byte // r, w, s
	at   int
	b    []byte
}

// step is a call: g a Get, p a Put of a page with an LSN of the sort n, f a FlushAll, a an Append of n records, l the log's Flush.
type step struct {
	kind   byte
	number uint32
	n      int
}

// The sorts of what is put.
const (
	putZero   = iota // the zero page
	putOld           // with the LSN 0
	putBelow         // with the last LSN that is below Durable
	putAt            // with Durable
	putLast          // with the last LSN that is below End
	putBeyond        // with one beyond End
	putWrong         // one that may not be
	putSorts
)

// wants is the page that a Put is handed, at a place in a script.
func (s step) wants(at int, durable, end uint64) api.Page {
	p := someOf(uint64(at*31+7), 0)
	if p.Kind == 0 {
		p = heap(0)
	}
	switch s.n {
	case putZero:
		return api.Page{}
	case putBelow:
		p.LSN = durable - 1
	case putAt:
		p.LSN = durable
	case putLast:
		p.LSN = end - 1
	case putBeyond:
		p.LSN = end + 9
	case putWrong:
		p.Kind = 9
	}
	return p
}

// mirror is a disk with a log and a pool, by the chapters' words alone; all but which page gives up its frame.
type mirror struct {
	lasting   [][]byte
	cache     []op
	pages     int
	frames    int
	durable   uint64
	end       uint64
	is        map[uint32]api.Page // the pages; those that are none have no place
	framed    map[uint32]bool
	unwritten map[uint32]bool
	dirty     map[uint32]uint64
}

// mirrorOf begins with these sectors: those of an empty log of the least size, and the pages'.
func mirrorOf(frames int, image []byte, pages []api.Page, there []bool) *mirror {
	m := &mirror{pages: len(pages), frames: frames, durable: 1, end: 1, is: map[uint32]api.Page{}, framed: map[uint32]bool{}, unwritten: map[uint32]bool{}, dirty: map[uint32]uint64{}}
	for at := 0; at < len(image); at += size {
		m.lasting = append(m.lasting, slices.Clone(image[at:at+size]))
	}
	for i, p := range pages {
		if there[i] {
			m.is[uint32(i+1)] = p
		}
	}
	return m
}

// apply does an operation.
func (m *mirror) apply(o op) {
	switch o.kind {
	case 'w':
		m.cache = append(m.cache, o)
	case 's':
		for _, w := range m.cache {
			m.lasting[w.at] = w.b
		}
		m.cache = nil
	}
}

// do tells what a call answers, and which operations it does, in their order; out is the page that gave up its frame, 0 if none did.
func (m *mirror) do(s step, at int, out uint32) (string, []op) {
	there := s.number >= 1 && s.number <= uint32(m.pages)
	switch {
	case s.kind == 'a':
		m.end += uint64(4 * s.n)
		return "0", nil
	case s.kind == 'l':
		return "0", m.flushLog()
	case s.kind == 'f':
		return "0", m.flushAll()
	case !there:
		return "2", nil
	case s.kind == 'g':
		return m.get(s.number, out)
	}
	to := s.wants(at, m.durable, m.end)
	if s.n == putWrong {
		return "5", nil
	}
	var ops []op
	if !m.framed[s.number] {
		ops = m.giveUp(out)
	}
	m.is[s.number], m.unwritten[s.number], m.framed[s.number] = to, true, true
	if _, dirty := m.dirty[s.number]; !dirty {
		m.dirty[s.number] = to.LSN
	}
	return "0", ops
}

func (m *mirror) get(number, out uint32) (string, []op) {
	var ops []op
	p, page := m.is[number]
	if !m.framed[number] {
		ops = append(ops, op{'r', leastLog + int(number), nil})
		if !page {
			return "5", ops
		}
		ops = append(ops, m.giveUp(out)...)
		m.framed[number] = true
	}
	return "0 " + string(written(p)), ops
}

// giveUp is what is done where a page gives up its frame.
func (m *mirror) giveUp(out uint32) []op {
	delete(m.framed, out)
	return m.write(out)
}

// write is what is done where a page is to be written, if it is.
func (m *mirror) write(number uint32) []op {
	if !m.unwritten[number] {
		return nil
	}
	var ops []op
	p := m.is[number]
	if p.LSN >= m.durable {
		ops = m.flushLog()
	}
	delete(m.unwritten, number)
	return append(ops, op{'w', leastLog + int(number), written(p)})
}

func (m *mirror) flushLog() []op {
	if m.durable == m.end {
		return nil
	}
	var ops []op
	stream := bytes.Repeat([]byte{4, 0, 1, 1}, int(m.end-1)/4)
	for place := int(m.durable-1) / logBytes; place*logBytes < len(stream); place++ {
		part := stream[place*logBytes : min(len(stream), (place+1)*logBytes)]
		b := append([]byte{byte(len(part)), byte(len(part) >> 8)}, part...)
		ops = append(ops, op{'w', 1 + place, append(b, make([]byte, size-len(b))...)})
	}
	m.durable = m.end
	return append(ops, op{kind: 's'})
}

func (m *mirror) flushAll() []op {
	if len(m.dirty) == 0 {
		return nil
	}
	var ops []op
	for _, number := range slices.Sorted(maps.Keys(m.dirty)) {
		ops = append(ops, m.write(number)...)
	}
	clear(m.dirty)
	return append(ops, op{kind: 's'})
}

// told are the dirty pages as Dirty is to tell them.
func (m *mirror) told() []api.Dirty {
	var all []api.Dirty
	for _, number := range slices.Sorted(maps.Keys(m.dirty)) {
		all = append(all, api.Dirty{Page: number, From: m.dirty[number]})
	}
	return all
}

// do does a call; what it answers.
func (x place) do(t *testing.T, s step, at int) string {
	switch s.kind {
	case 'a':
		x.appends(t, s.n)
		return "0"
	case 'l':
		return fmt.Sprint(int(x.l.Flush()))
	case 'f':
		return fmt.Sprint(int(x.p.FlushAll()))
	case 'p':
		return fmt.Sprint(int(x.p.Put(s.number, s.wants(at, x.l.Durable(), x.l.End()))))
	}
	p, e := x.p.Get(s.number)
	if e != api.OK {
		return fmt.Sprint(int(e))
	}
	return "0 " + string(written(p))
}

// setting is how a place stands ahead of a script.
type setting struct {
	frames int
	pages  []api.Page
	there  []bool // which are pages at all
	first  []step
}

// settingOf has pages that hang on a seed, one of noughts and one that is none among them.
func settingOf(seed uint64, frames, pages int, first ...step) setting {
	g := setting{frames: frames, first: first}
	for i := range pages {
		p := someOf(seed*100+uint64(i), uint64(i)*7)
		if i == 2 {
			p = api.Page{}
		}
		g.pages = append(g.pages, p)
		g.there = append(g.there, i != 3)
	}
	return g
}

// place makes it.
func (g setting) place(t *testing.T) place {
	t.Helper()
	var sectors [][]byte
	for i, p := range g.pages {
		if !g.there[i] {
			sectors = append(sectors, noise(uint64(i), size))
			continue
		}
		sectors = append(sectors, written(p))
	}
	return holding(t, g.frames, sectors...)
}

// gone tells the pages that are among the first ones alone.
func gone(from, to []uint32) []uint32 {
	return slices.DeleteFunc(slices.Clone(from), func(number uint32) bool { return slices.Contains(to, number) })
}

// stands asks that a disk stands as the mirror's.
func stands(t *testing.T, what string, d *disk.Disk, lasting [][]byte, cache []op) {
	t.Helper()
	if got := d.Pending(); got != len(cache) {
		t.Fatalf("%s: %d in the cache, want %d", what, got, len(cache))
	}
	if !bytes.Equal(d.Image(), bytes.Join(lasting, nil)) {
		t.Fatalf("%s: the disk lasts otherwise", what)
	}
	other := slices.Clone(lasting)
	for _, w := range cache {
		other[w.at] = w.b
	}
	if len(cache) > 0 {
		d.Cut(slices.Repeat([]bool{true}, len(cache))...)
	}
	if !bytes.Equal(d.Image(), bytes.Join(other, nil)) {
		t.Fatalf("%s: the cache has other bytes", what)
	}
}

// follows does a call on both sides, and asks that they agree; the operations that it did.
func follows(t *testing.T, what string, x place, m *mirror, s step, at int) (string, []op) {
	t.Helper()
	before, from := x.framed(t), x.d.Counts()
	got := x.do(t, s, at)
	after, to := x.framed(t), x.d.Counts()
	var out uint32
	if left := gone(before, after); len(left) == 1 && len(before) == m.frames {
		out = left[0]
	} else if len(left) > 0 {
		t.Fatalf("%s: %v have left the %d frames", what, left, len(before))
	}
	want, ops := m.do(s, at, out)
	if got != want {
		t.Fatalf("%s: %q, want %q", what, got, want)
	}
	if framed := slices.Sorted(maps.Keys(m.framed)); !slices.Equal(after, framed) || len(after) > m.frames {
		t.Fatalf("%s: %v are in frames, want %v", what, after, framed)
	}
	var counts api.Counts
	for _, o := range ops {
		switch o.kind {
		case 'r':
			counts.Reads++
		case 'w':
			counts.Writes++
		case 's':
			counts.Syncs++
		}
	}
	if counts != (api.Counts{Reads: to.Reads - from.Reads, Writes: to.Writes - from.Writes, Syncs: to.Syncs - from.Syncs}) {
		t.Fatalf("%s: %+v behind %+v, want %+v of it", what, to, from, counts)
	}
	if x.l.Durable() != m.durable || x.l.End() != m.end || !slices.Equal(x.p.Dirty(), m.told()) {
		t.Fatalf("%s: Durable %d, End %d, Dirty %v, want %d, %d, %v", what, x.l.Durable(), x.l.End(), x.p.Dirty(), m.durable, m.end, m.told())
	}
	return got, ops
}

// playsAs asks that each call of a script answers as the mirror's, and that the last one does the same operations in the same order: the power goes at each of them.
func playsAs(t *testing.T, g setting, script []step) {
	t.Helper()
	x := g.place(t)
	m := mirrorOf(g.frames, x.d.Image(), g.pages, g.there)
	script = slices.Concat(g.first, script)
	last := len(script) - 1
	what := fmt.Sprintf("%d frames, %c", g.frames, script)
	for i, s := range script[:last] {
		_, ops := follows(t, what, x, m, s, i)
		for _, o := range ops {
			m.apply(o)
		}
	}
	dirty := x.p.Dirty()
	_, ops := follows(t, what, x, m, script[last], last)
	for trip := range ops {
		y := g.place(t)
		for i, s := range script[:last] {
			y.do(t, s, i)
		}
		y.d.Trip(trip)
		if got := y.do(t, script[last], last); got != "8" {
			t.Fatalf("%s with a trip of %d: %q", what, trip, got)
		}
		if script[last].kind != 'l' && !slices.Equal(y.p.Dirty(), dirty) {
			t.Fatalf("%s with a trip of %d: Dirty %v, want %v", what, trip, y.p.Dirty(), dirty)
		}
		stands(t, fmt.Sprintf("%s with a trip of %d", what, trip), y.d, m.lasting, m.cache)
		m.apply(ops[trip])
	}
	stands(t, what, x.d, m.lasting, m.cache)
}

// allSteps are calls of every kind; of pages that are in frames, and that are not, in the settings below.
func allSteps() []step {
	return []step{{'g', 1, 0}, {'g', 3, 0}, {'g', 4, 0}, {'g', 11, 0}, {'g', 12, 0}, {'g', 13, 0}, {'p', 1, putBelow}, {'p', 4, putAt}, {'p', 11, putLast}, {'p', 12, putBeyond}, {'p', 3, putZero}, {'p', 2, putOld}, {'p', 5, putWrong}, {'p', 13, putOld}, {'f', 0, 0}, {'a', 0, 3}, {'a', 0, 150}, {'l', 0, 0}}
}

// P11.1 to P11.4: all scripts of up to three calls, on pools that stand in several ways.
func TestScripts(t *testing.T) {
	filled := []step{{'a', 0, 2}, {'l', 0, 0}, {'a', 0, 2}, {'p', 1, putLast}, {'p', 2, putBelow}, {'g', 3, 0}, {'p', 4, putOld}, {'g', 5, 0}, {'p', 6, putLast}, {'g', 7, 0}, {'p', 8, putAt}}
	emptied := slices.Concat(filled, []step{{'f', 0, 0}, {'a', 0, 1}})
	round := slices.Concat(filled, []step{{'p', 9, putLast}, {'g', 10, 0}, {'g', 3, 0}, {'a', 0, 130}, {'p', 1, putLast}})
	for i, g := range []setting{settingOf(1, 8, 12), settingOf(2, 8, 12, filled...), settingOf(3, 8, 12, emptied...), settingOf(4, 8, 12, round...), settingOf(5, 9, 12, round...)} {
		t.Run(fmt.Sprint(i), func(t *testing.T) {
			t.Parallel()
			var ask func(script []step)
			ask = func(script []step) {
				if len(script) > 0 {
					playsAs(t, g, script)
				}
				if len(script) == 3 {
					return
				}
				for _, s := range allSteps() {
					ask(append(slices.Clip(script), s))
				}
			}
			ask(nil)
		})
	}
}

// P11.1 to P11.4, P11.6: long scripts.
func TestLongScripts(t *testing.T) {
	for seed := range uint64(150) {
		pick := picker(seed + 1)
		g := settingOf(seed, 8+pick(4), 6+pick(20))
		var script []step
		records := 0
		for range 40 + pick(300) {
			number := uint32(pick(len(g.pages) + 2))
			switch x := pick(100); {
			case x < 45:
				script = append(script, step{'g', number, 0})
			case x < 85:
				script = append(script, step{'p', number, pick(putSorts)})
			case x < 95 && records < 1900:
				n := 1 + pick(3)*pick(20)
				records += n
				script = append(script, step{'a', 0, n})
			case x < 98:
				script = append(script, step{'l', 0, 0})
			default:
				script = append(script, step{'f', 0, 0})
			}
		}
		playsAs(t, g, script)
		playsAs(t, g, append(script, step{'f', 0, 0}))
	}
}
