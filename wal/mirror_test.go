package wal

import (
	"bytes"
	"fmt"
	"slices"
	"testing"

	"cadastre/api"
	"cadastre/disk"
)

// op is an operation on a disk: a Read, a Write of these bytes, a Sync.
type op struct {
	kind byte // r, w, s
	at   int
	b    []byte
}

// mirror is a disk with a log, by the chapter's words alone.
type mirror struct {
	lasting [][]byte
	cache   []op
	n       int
	base    uint64
	check   uint64
	kept    uint32
	durable uint64
	records []api.Record
}

func (m *mirror) stream() []byte { return streamOf(m.records...) }
func (m *mirror) end() uint64    { return m.base + uint64(len(m.stream())) }

// facts are what the log is to tell.
func (m *mirror) facts() facts {
	held := len(m.stream())
	room := uint64(m.n*510 - held)
	if left := uint64(1<<62) - m.end(); left < room {
		room = left
	}
	return facts{m.base, m.end(), m.durable, m.check, m.kept, int(room), m.n}
}

// write, sync and read are the operations, one by one; master is the write of the master as it is to be.
func write1(at int, b []byte) op { return op{'w', at, b} }
func sync1() op                  { return op{kind: 's'} }
func (m *mirror) master(wiped byte) op {
	return write1(0, masterWith(uint32(m.n), m.base, m.check, m.kept, wiped))
}

// apply does an operation.
func (m *mirror) apply(o op) {
	switch o.kind {
	case 'w':
		m.cache = append(m.cache, o)
	case 's':
		for _, w := range m.cache {
			m.lasting[w.at] = w.b
		}
		m.cache = nil
	}
}

// step is a call: a an Append of n bytes (0: of a record that may not be), f a Flush, m a Mark (of which record, n tells), r a Reset that keeps n, o an Open anew, p a page that is written beside.
type step struct {
	kind byte
	n    int
}

// seedAt hangs on where a record stands, so that no two are alike by chance.
func seedAt(at uint64) int { return int(at % 1000003) }

// checkOf is the number that a Mark is handed.
func checkOf(n int, base, end uint64, lsns []uint64) uint64 {
	switch {
	case n == 0:
		return 0
	case n == 1:
		return base
	case n == 2 && len(lsns) > 0:
		return lsns[len(lsns)-1]
	case n == 3 && len(lsns) > 1:
		return lsns[len(lsns)-2]
	case n == 4:
		return base + 1
	}
	return end
}

// do tells what a call answers, and which operations it does; the log is then as it is behind the call.
func (m *mirror) do(s step) (string, []op) {
	switch s.kind {
	case 'a':
		return m.append(s.n), nil
	case 'f':
		return m.flush()
	case 'm':
		var lsns []uint64
		for _, r := range m.records {
			lsns = append(lsns, r.LSN)
		}
		return m.mark(checkOf(s.n, m.base, m.end(), lsns))
	case 'r':
		return m.reset(uint32(s.n))
	case 'p':
		return "0", []op{write1(m.n+1, noise(uint64(s.n), size))}
	}
	return m.open()
}

func (m *mirror) append(n int) string {
	end := m.end()
	if n == 0 {
		return "0 5"
	}
	if n > m.facts().room {
		return "0 4"
	}
	m.records = append(m.records, placed(end, sized(n, seedAt(end)))...)
	return fmt.Sprint(end, " 0")
}

func (m *mirror) flush() (string, []op) {
	var ops []op
	end := m.end()
	for place, s := range sectorsOf(m.n, m.stream()) {
		first, behind := m.base+uint64(place*510), m.base+uint64(place*510+510)
		if first < end && behind > m.durable && m.durable != end {
			ops = append(ops, write1(1+place, s))
		}
	}
	if m.durable != end {
		ops = append(ops, sync1())
	}
	m.durable = end
	return "0", ops
}

func (m *mirror) mark(check uint64) (string, []op) {
	right := check == 0
	for i, r := range m.records {
		behind := m.end()
		if i+1 < len(m.records) {
			behind = m.records[i+1].LSN
		}
		right = right || r.LSN == check && behind <= m.durable
	}
	if !right {
		return "1", nil
	}
	m.check = check
	return "0", []op{m.master(0), sync1()}
}

func (m *mirror) reset(kept uint32) (string, []op) {
	held := int(m.durable - m.base)
	m.base, m.check, m.kept = m.end(), 0, kept
	m.records, m.durable = nil, m.base
	ops := []op{m.master(1), sync1()}
	for place := 0; place*510 < held; place++ {
		ops = append(ops, write1(1+place, make([]byte, size)))
	}
	return "0", append(ops, sync1(), m.master(0), sync1())
}

// open tells of an Open of a log that was not broken off: what was not flushed is gone.
func (m *mirror) open() (string, []op) {
	m.records = slices.DeleteFunc(m.records, func(r api.Record) bool { return r.LSN >= m.durable })
	var ops []op
	for range m.n + 1 {
		ops = append(ops, op{kind: 'r'})
	}
	if len(m.cache) > 0 {
		ops = append(ops, sync1())
	}
	answer := "0"
	for _, r := range m.records {
		answer += fmt.Sprint(" ", r.LSN)
	}
	return answer, ops
}

// pair is a disk with a log on it.
type pair struct {
	d *disk.Disk
	l *Log
}

// do does a call; what it answers.
func (p *pair) do(s step) string {
	switch s.kind {
	case 'a':
		r := api.Record{Kind: 9}
		if s.n > 0 {
			r = sized(s.n, seedAt(p.l.End()))
		}
		lsn, e := p.l.Append(r)
		return fmt.Sprint(lsn, int(e))
	case 'f':
		return fmt.Sprint(int(p.l.Flush()))
	case 'm':
		return fmt.Sprint(int(p.l.Mark(checkOf(s.n, p.l.Base(), p.l.End(), p.l.starts))))
	case 'r':
		return fmt.Sprint(int(p.l.Reset(uint32(s.n))))
	case 'p':
		return fmt.Sprint(int(p.d.Write(p.l.Sectors()+1, noise(uint64(s.n), size))))
	}
	l, records, e := Open(p.d)
	p.l = l
	answer := fmt.Sprint(int(e))
	for _, r := range records {
		answer += fmt.Sprint(" ", r.LSN)
	}
	return answer
}

// setting is how a log stands ahead of a script.
type setting struct {
	n     int
	base  uint64
	sizes []int // of the records that it holds
}

// begins are the setting's records.
func (g setting) records() []api.Record {
	var records []api.Record
	at := g.base
	for _, n := range g.sizes {
		records = append(records, placed(at, sized(n, seedAt(at)))...)
		at += uint64(n)
	}
	return records
}

func (g setting) mirror() *mirror {
	m := &mirror{n: g.n, base: g.base, records: g.records()}
	m.durable = m.end()
	m.lasting = slices.Concat([][]byte{m.master(0).b}, sectorsOf(g.n, m.stream()), pages())
	return m
}

func (g setting) pair(t *testing.T) *pair {
	t.Helper()
	d := diskWith(t, g.n, g.base, streamOf(g.records()...))
	return &pair{d, opens(t, d, g.records()...)}
}

// stands asks that a disk stands as the mirror's.
func stands(t *testing.T, what string, d *disk.Disk, lasting [][]byte, cache []op) {
	t.Helper()
	if got := d.Pending(); got != len(cache) {
		t.Fatalf("%s: %d in the cache, want %d", what, got, len(cache))
	}
	if !bytes.Equal(d.Image(), bytes.Join(lasting, nil)) {
		t.Fatalf("%s: the disk lasts otherwise", what)
	}
	other := slices.Clone(lasting)
	for _, w := range cache {
		other[w.at] = w.b
	}
	if len(cache) > 0 {
		d.Cut(slices.Repeat([]bool{true}, len(cache))...)
	}
	if !bytes.Equal(d.Image(), bytes.Join(other, nil)) {
		t.Fatalf("%s: the cache has other bytes", what)
	}
}

// playsAs asks that a script's last call answers as the mirror's, and does the same operations, in the same order.
func playsAs(t *testing.T, g setting, script []step) {
	t.Helper()
	m := g.mirror()
	last := len(script) - 1
	for _, s := range script[:last] {
		_, ops := m.do(s)
		for _, o := range ops {
			m.apply(o)
		}
	}
	answer, ops := m.do(script[last])
	for trip := 0; trip <= len(ops); trip++ {
		if between := trip > 0 && trip < len(ops) && ops[trip-1].kind == ops[trip].kind && ops[trip].kind != 's'; between && trip%5 > 0 {
			m.apply(ops[trip-1])
			continue // one of many alike
		}
		p := g.pair(t)
		for _, s := range script[:last] {
			p.do(s)
		}
		what := fmt.Sprintf("%+v: %c%+v with a trip of %d", g, script[last].kind, script, trip)
		if trip < len(ops) {
			p.d.Trip(trip)
			if got := p.do(script[last]); got != "8" {
				t.Fatalf("%s: %s", what, got)
			}
		} else {
			from := p.d.Counts()
			if got := p.do(script[last]); got != answer {
				t.Fatalf("%s: %s, want %s", what, got, answer)
			}
			if got := done(from, p.d.Counts()); got.Reads+got.Writes+got.Syncs != len(ops) {
				t.Fatalf("%s: %+v were done, want %d", what, got, len(ops))
			}
			tells(t, p.l, m.facts())
		}
		if trip > 0 && ops[trip-1].kind != 'r' {
			m.apply(ops[trip-1])
		}
		stands(t, what, p.d, m.lasting, m.cache)
	}
}

// allSteps are calls of every kind.
func allSteps() []step {
	return []step{{'a', 4}, {'a', 511}, {'a', 1300}, {'a', 0}, {'f', 0}, {'m', 0}, {'m', 1}, {'m', 2}, {'m', 3}, {'m', 4}, {'m', 5}, {'r', 1 << 20}, {'o', 0}, {'p', 5}}
}

// P10.2 to P10.6: all scripts of up to three calls (of two, on longer logs), on logs that stand in several ways.
func TestScripts(t *testing.T) {
	for _, g := range []setting{{16, 1, nil}, {16, 300, []int{4, 506}}, {17, 1000, []int{100, 1500}}, {16, 1, []int{4, 4000}}, {16, 1<<62 - 1800, []int{4}}} {
		t.Run(fmt.Sprint(g), func(t *testing.T) {
			t.Parallel()
			most := 3
			if len(g.sizes) > 0 && g.sizes[len(g.sizes)-1] > 1000 {
				most = 2
			}
			var ask func(script []step)
			ask = func(script []step) {
				if len(script) > 0 {
					playsAs(t, g, script)
				}
				if len(script) == most {
					return
				}
				for _, s := range allSteps() {
					ask(append(slices.Clip(script), s))
				}
			}
			ask(nil)
		})
	}
}

// P10.2 to P10.6: long scripts.
func TestLongScripts(t *testing.T) {
	for seed := range 40 {
		pick := picker(uint64(seed))
		g := setting{16 + pick(3), 1 + uint64(pick(5000)), nil}
		var script []step
		for range 150 {
			switch x := pick(100); {
			case x < 50:
				script = append(script, step{'a', 4 + pick(4+pick(20)*pick(20))})
			case x < 70:
				script = append(script, step{'f', 0})
			case x < 90:
				script = append(script, step{'m', pick(6)})
			case x < 94:
				script = append(script, step{'o', 0})
			case x < 97:
				script = append(script, step{'p', pick(50)})
			default:
				script = append(script, step{'r', pick(1 << 30)})
			}
		}
		m, p := g.mirror(), g.pair(t)
		for i, s := range script {
			answer, ops := m.do(s)
			for _, o := range ops {
				m.apply(o)
			}
			if got := p.do(s); got != answer {
				t.Fatalf("script %d, step %d, %c %d: %s, want %s", seed, i, s.kind, s.n, got, answer)
			}
			tells(t, p.l, m.facts())
			if p.d.Pending() != len(m.cache) || i%10 == 0 && !bytes.Equal(p.d.Image(), bytes.Join(m.lasting, nil)) {
				t.Fatalf("script %d, step %d: the disk stands otherwise", seed, i)
			}
		}
		playsAs(t, g, script)
	}
}
