package kernel

import (
	"bytes"
	"encoding/binary"
	"fmt"
	"math"
	"slices"
	"testing"

	"cadastre/api"
	"cadastre/chain"
	"cadastre/disk"
	"cadastre/node"
	"cadastre/page"
	"cadastre/record"
	"cadastre/wal"
)

// P14.1: how large a log must be, and a disk.
func TestFormatSizes(t *testing.T) {
	for _, c := range []struct{ sectors, n int }{{18, 15}, {18, 0}, {18, -1}, {18, math.MinInt}, {17, 16}, {18, 17}, {18, 18}, {18, math.MaxInt}, {1, 16}, {8192, 8191}, {8192, 8192}, {40, 39}} {
		d, e := disk.New(c.sectors)
		is(t, "disk.New", e, api.OK)
		if e := Format(d, c.n); e != errArg || d.Counts() != (api.Counts{}) {
			t.Errorf("Format of %d sectors with %d: %d, %+v", c.sectors, c.n, int(e), d.Counts())
		}
	}
	for _, n := range []int{15, 16, math.MaxInt} {
		is(t, "Format of no disk", Format(nil, n), errArg)
		is(t, "Format of no disk", Format(new(disk.Disk), n), errArg)
	}
	for _, c := range []struct{ sectors, n int }{{18, 16}, {19, 16}, {19, 17}, {8192, 8190}, {8192, 16}} {
		k := opened(t, formatted(t, c.n, c.sectors-1-c.n), 8)
		if k.Pages() != c.sectors-1-c.n || k.Log().Sectors() != c.n {
			t.Errorf("%+v: %d pages", c, k.Pages())
		}
	}
}

// masterOf is a master's sector.
func masterOf(n int, base, check uint64, kept uint32) []byte {
	s := []byte("cadastre")
	s = binary.LittleEndian.AppendUint32(s, uint32(n))
	s = binary.LittleEndian.AppendUint64(s, base)
	s = binary.LittleEndian.AppendUint64(s, check)
	s = binary.LittleEndian.AppendUint32(s, kept)
	return append(s, make([]byte, size-len(s))...)
}

// noisy is a disk of other bytes.
func noisy(t *testing.T, sectors int) *disk.Disk {
	t.Helper()
	b := make([]byte, sectors*size)
	pick := picker(5)
	for i := range b {
		b[i] = byte(pick(256))
	}
	d, e := disk.Load(b)
	is(t, "disk.Load", e, api.OK)
	return d
}

// P14.1: whatever there was, all is noughts but the master, and lasts.
func TestFormatBytes(t *testing.T) {
	d := noisy(t, 25)
	if got := counted(d, func() { is(t, "Format", Format(d, 17), api.OK) }); got != (api.Counts{Writes: 25, Syncs: 1}) {
		t.Fatalf("%+v were done", got)
	}
	want := append(masterOf(17, 1, 0, 0), make([]byte, 24*size)...)
	if !bytes.Equal(d.Image(), want) || d.Pending() != 0 {
		t.Fatal("the disk has other bytes")
	}
	d.Cut()
	k := opened(t, d, 8)
	shapes(t, k, image(7, heap(cell("a"))))
	is(t, "Check", k.Check(), api.OK)
	is(t, "Format", Format(d, 16), api.OK)
	d.Cut()
	k = opened(t, d, 8)
	for number := range k.Pages() {
		reads(t, k, uint32(number+1), api.Page{})
	}
	if got := begins(t, k); got != 1 {
		t.Fatalf("Begin: %d", got)
	}
}

// P14.1: the disk's error, at each operation.
func TestFormatDark(t *testing.T) {
	for trip := 0; ; trip++ {
		d := noisy(t, 25)
		d.Trip(trip)
		e := Format(d, 17)
		if !d.Dark() {
			is(t, "Format", e, api.OK)
			if trip < 25 {
				t.Fatalf("%d operations: not a test", trip)
			}
			return
		}
		is(t, "Format", e, errDark)
	}
}

// P14.2: the arguments; nothing is done to the disk.
func TestOpenArguments(t *testing.T) {
	for _, frames := range []int{math.MinInt, -1, 0, 7, 257, 1 << 32, math.MaxInt} {
		d := noisy(t, 20)
		if k, e := Open(d, frames); k != nil || e != errArg || d.Counts() != (api.Counts{}) {
			t.Fatalf("Open with %d frames: %v, %d", frames, k, int(e))
		}
	}
	for _, frames := range []int{7, 8, 256} {
		if k, e := Open(nil, frames); k != nil || e != errArg {
			t.Fatalf("Open of no disk: %v, %d", k, int(e))
		}
	}
	for _, frames := range []int{leastFrames, 9, mostFrames} {
		k := opened(t, formatted(t, leastLog, 300), frames)
		for number := range uint32(300) {
			shapes(t, k, image(number+1, heap()))
		}
	}
	if k, e := Open(noisy(t, 20), 8); k != nil || e != errForm {
		t.Fatalf("Open of noise: %v, %d", k, int(e))
	}
	if k, e := Open(new(disk.Disk), 8); k != nil || e != errRange {
		t.Fatalf("Open of a disk without sectors: %v, %d", k, int(e))
	}
	d, e := disk.New(17)
	is(t, "disk.New", e, api.OK)
	is(t, "wal.Format", wal.Format(d, 16), api.OK)
	if k, e := Open(d, 8); k != nil || e != errArg {
		t.Fatalf("Open of a disk without pages: %v, %d", k, int(e))
	}
}

// found is what a restart finds on a disk.
type found struct {
	sectors int // of the log
	pages   []api.Page
	base    uint64
	check   uint64
	kept    uint32
	records []api.Record // their LSNs play no part
}

// placed are the records, with their LSNs.
func (f found) placed() []api.Record {
	var all []api.Record
	at := f.base
	for _, r := range f.records {
		r.LSN = at
		at += uint64(bytesOf(r))
		all = append(all, r)
	}
	return all
}

// end is where the log ends.
func (f found) end() uint64 {
	at := f.base
	for _, r := range f.records {
		at += uint64(bytesOf(r))
	}
	return at
}

// disk is such a disk.
func (f found) disk(t *testing.T) *disk.Disk {
	t.Helper()
	b := masterOf(f.sectors, f.base, f.check, f.kept)
	var stream []byte
	for _, r := range f.records {
		s, e := record.Encode(r)
		is(t, "record.Encode", e, api.OK)
		stream = append(stream, s...)
	}
	for range f.sectors {
		part := stream[:min(logBytes, len(stream))]
		stream = stream[len(part):]
		b = binary.LittleEndian.AppendUint16(b, uint16(len(part)))
		b = append(append(b, part...), make([]byte, logBytes-len(part))...)
	}
	for _, p := range f.pages[1:] {
		b = append(b, written(t, p)...)
	}
	d, e := disk.Load(b)
	is(t, "disk.Load", e, api.OK)
	return d
}

// outcome is what comes of a restart.
type outcome struct {
	e       api.Errno
	pages   []api.Page
	next    uint32
	records []api.Record // what the restart appends
}

// undoAhead tells what was to be undone next of a record's transaction ahead of it, as Analyse tells it; false: that it can't.
func undoAhead(records []api.Record, at int, check uint64) (uint64, bool) {
	if records[at].LSN < check {
		check = 0
	}
	lives, _, _, e := chain.Analyse(records[:at], check)
	i := slices.IndexFunc(lives, func(l api.Live) bool { return l.Txn == records[at].Txn })
	if e != api.OK || i < 0 {
		return 0, false
	}
	return lives[i].Undo, true
}

// restarted is what the words say of a restart; false: they leave it open.
func (f found) restarted() (outcome, bool) {
	records := f.placed()
	lives, dirty, next, e := chain.Analyse(records, f.check)
	if e != api.OK {
		return outcome{e: e}, true
	}
	m := &mirror{sectors: f.sectors, pages: twinPages(f.pages), base: f.base, end: f.end(), txns: map[uint32]mtxn{}}
	// Redo.
	for _, r := range records {
		if len(dirty) == 0 || r.LSN < chain.From(dirty) {
			continue
		}
		images := slices.Clone(r.Images)
		if r.Kind == recDo || r.Kind == recUndo {
			images = append(images, image(r.Page, api.Page{}))
		}
		for _, i := range images {
			p, e := m.get(i.Page)
			if e != api.OK {
				return outcome{e: errForm}, true
			}
			if p.LSN >= r.LSN {
				continue
			}
			to := i.To
			if r.Kind != recShape {
				if to, e = page.Do(p, r.Op); e != api.OK {
					return outcome{e: errForm}, true
				}
			}
			m.become(i.Page, to, r.LSN)
		}
	}
	for _, d := range dirty {
		if _, e := m.get(d.Page); e != api.OK {
			return outcome{e: errForm}, true
		}
	}
	// Undo.
	for {
		place := chain.Next(lives)
		if place < 0 {
			break
		}
		l := &lives[place]
		m.txns[l.Txn] = mtxn{last: l.Last}
		if l.Undo == 0 {
			l.Last = m.appendOf(l.Txn, api.Record{Kind: recEnd})
			lives = slices.Delete(lives, place, place+1)
			continue
		}
		at := slices.IndexFunc(records, func(r api.Record) bool { return r.LSN == l.Undo && r.Kind == recDo && r.Txn == l.Txn })
		if at < 0 {
			return outcome{e: errForm}, true
		}
		ahead, told := undoAhead(records, at, f.check)
		if !told || ahead >= l.Undo {
			return outcome{}, false
		}
		number, op, e := m.takenBack(records[at])
		if e != api.OK {
			return outcome{e: errForm}, true
		}
		to, e := page.Do(m.pages[number], op)
		if e != api.OK {
			return outcome{e: errForm}, true
		}
		l.Last = m.appendOf(l.Txn, api.Record{Kind: recUndo, Undo: ahead, Page: number, Root: records[at].Root, Op: op})
		l.Undo = ahead
		m.become(number, to, l.Last)
	}
	return outcome{pages: m.pages, next: max(1, f.kept, next), records: m.records}, m.room() >= 0
}

// takenBack is in which page, by what, a RecDo is taken back.
func (m *mirror) takenBack(r api.Record) (uint32, api.Op, api.Errno) {
	number := r.Page
	if r.Root != 0 {
		path, e := node.Path(m.get, r.Root, string(r.Op.Data))
		if e != api.OK {
			return 0, api.Op{}, e
		}
		number = path[len(path)-1]
	}
	p, e := m.get(number)
	if e != api.OK {
		return 0, api.Op{}, e
	}
	if p.Kind != kindFor(r.Root) {
		return 0, api.Op{}, errForm
	}
	op, e := page.Undo(kindFor(r.Root), r.Op)
	return number, op, e
}

// restarts asks that Open does what the words say.
func restarts(t *testing.T, what func() string, f found, frames int) api.Errno {
	t.Helper()
	want, told := f.restarted()
	if !told {
		return -1
	}
	d := f.disk(t)
	k, e := Open(d, frames)
	if e != want.e || (k == nil) != (e != api.OK) {
		t.Fatalf("%s: Open: %d, want %d, of a log from %d, check %d\n%+v%s", what(), int(e), int(want.e), f.base, f.check, f.placed(), shownPages(f.pages))
	}
	if e != api.OK {
		return e
	}
	if got := allPages(t, k); !slices.EqualFunc(got, want.pages, alike) {
		t.Fatalf("%s: the pages are%s\nwant%s\nof a log from %d, check %d\n%+v", what(), shownPages(got), shownPages(want.pages), f.base, f.check, f.placed())
	}
	end := f.end()
	for _, r := range want.records {
		end += uint64(bytesOf(r))
	}
	l := k.Log()
	if l.Base() != end || l.End() != end || l.Check() != 0 || l.Kept() != want.next || len(k.Lives()) != 0 {
		t.Fatalf("%s: Base %d, End %d, Check %d, Kept %d, Lives %d, want %d, %d", what(), l.Base(), l.End(), l.Check(), l.Kept(), k.Lives(), end, want.next)
	}
	if n, e := k.Fresh(k.Pages()); len(n) != k.Pages() || e != api.OK {
		t.Fatalf("%s: Fresh behind Open: %d, %d", what(), n, int(e))
	}
	// It lasts.
	d.Cut()
	k = opened(t, d, 8)
	if got := allPages(t, k); !slices.EqualFunc(got, want.pages, alike) {
		t.Fatalf("%s: behind another restart the pages are%s\nwant%s", what(), shownPages(got), shownPages(want.pages))
	}
	if txn, e := k.Begin(); want.next < greatest && (txn != want.next || e != api.OK) {
		t.Fatalf("%s: Begin: %d, %d, want %d", what(), txn, int(e), want.next)
	}
	return api.OK
}

// past is what a mirror did, with the pages in each version since the last checkpoint.
type past struct {
	*mirror
	vers [][]api.Page
}

// did does a call.
func (p *past) did(c call) {
	p.call(c)
	for number, is := range p.pages {
		if c.kind == 'x' {
			p.vers[number] = nil
		}
		if n := len(p.vers[number]); n == 0 || p.vers[number][n-1].LSN != is.LSN {
			p.vers[number] = append(p.vers[number], is)
		}
	}
}

// pastOf is one of so many calls that hang on a seed.
func pastOf(seed uint64, calls int) (*past, func(n int) int) {
	pick := picker(seed)
	m := mirrorOf(leastLog+pick(2), 8+pick(8))
	p := &past{m, make([][]api.Page, len(m.pages))}
	p.did(call{kind: 's', images: plots()})
	w := wild{pick: pick, m: m, crowd: true}
	for range calls {
		p.did(w.call())
	}
	return p, pick
}

// found is what a cut leaves of it: a beginning of the records, pages that are not ahead of them, nor of what was flushed with the last checkpoint.
func (p *past) found(pick func(n int) int) found {
	f := found{sectors: p.sectors, base: p.base, check: p.mark, kept: p.kept, pages: []api.Page{{}}, records: p.records}
	least := 0
	if p.mark > 0 {
		least = 1 + slices.IndexFunc(p.records, func(r api.Record) bool { return r.LSN == p.mark })
	}
	if pick(3) > 0 && len(p.records) > least {
		f.records = p.records[:least+pick(len(p.records)-least)]
	}
	end := f.end()
	for _, v := range p.vers[1:] {
		last := 0
		for i, is := range v {
			if is.LSN < end {
				last = i
			}
		}
		f.pages = append(f.pages, v[pick(last+1)])
	}
	return f
}

// P14.2: what a kernel left is found again, in whatever state its pages came to the disk.
func TestOpenWords(t *testing.T) {
	t.Parallel()
	answers := map[api.Errno]int{}
	for seed := range 500 {
		p, pick := pastOf(uint64(seed), 30+seed%170)
		for range 4 {
			f := p.found(pick)
			answers[restarts(t, func() string { return fmt.Sprint("seed ", seed) }, f, leastFrames+pick(4))]++
		}
	}
	if answers[api.OK] < 1000 || answers[-1] > 0 {
		t.Errorf("%v: not a test", answers)
	}
}

// spoils changes something of what a restart finds; the records are still such that may be.
func (f *found) spoils(pick func(n int) int) {
	f.records, f.pages = slices.Clone(f.records), slices.Clone(f.pages)
	some := func() uint64 {
		placed := f.placed()
		if len(placed) == 0 {
			return 0
		}
		return placed[pick(len(placed))].LSN
	}
	if len(f.records) == 0 || pick(8) == 0 {
		number := 1 + pick(len(f.pages)-1)
		to := []api.Page{{}, heap(), leaf(0), heap(cell("a"), cell("b"), cell("c"))}[pick(4)]
		f.pages[number] = lsnOf(to, f.pages[number].LSN*uint64(min(1, to.Kind)))
		return
	}
	// One of the last few as a rule: nothing behind it is out of place then.
	at := len(f.records) - 1
	if pick(3) == 0 {
		at = pick(len(f.records))
	} else if at > 0 {
		at -= pick(min(at, 4))
	}
	r := f.records[at]
	switch pick(11) {
	case 0:
		r.Page = uint32(pick(len(f.pages) + 2))
	case 1:
		r.Undo = some()
	case 2:
		r.Prev = some()
	case 3:
		r.Op.Slot = pick(5)
	case 4:
		r.Root = uint32(pick(9))
	case 5:
		if len(r.Images) > 0 {
			r.Images = append(slices.Clone(r.Images), image(r.Images[len(r.Images)-1].Page+uint32(1+pick(9)), heap()))
		}
	case 6:
		f.check = some()
	case 7:
		f.kept = []uint32{0, 5, 5000, greatest}[pick(4)]
	case 8, 9:
		if r.Txn != 0 {
			f.records = append(f.records, api.Record{Kind: recAbort + pick(2), Txn: r.Txn, Prev: f.placed()[at].LSN})
		}
	case 10:
		// A checkpoint of other words than those of the records ahead of it.
		c := api.Record{Kind: recCheck, Next: uint32(pick(9))}
		placed := f.placed()
		if lives, dirty, _, e := chain.Analyse(placed, f.check); e == api.OK {
			c.Lives, c.Dirty = lives, dirty
		}
		for i := range c.Lives {
			switch pick(6) {
			case 0:
				c.Lives[i].Undo = some()
			case 1:
				c.Lives[i].Undo = 0
			case 2:
				c.Lives[i].Lost = !c.Lives[i].Lost
			}
		}
		if pick(2) == 0 {
			c.Dirty = slices.DeleteFunc(c.Dirty, func(api.Dirty) bool { return pick(2) == 0 })
		}
		if pick(4) == 0 {
			c.Dirty = append(c.Dirty, api.Dirty{Page: uint32(len(f.pages) + pick(2)), From: some()})
		}
		if !record.May(c) {
			return
		}
		f.check = f.end()
		f.records = append(f.records, c)
		return
	}
	if at < len(f.records) && record.May(r) {
		f.records[at] = r
	}
}

// mayBeFound tells whether wal's Open finds it: the check is a record's, and there is room.
func (f found) mayBeFound() bool {
	return (f.check == 0 || slices.ContainsFunc(f.placed(), func(r api.Record) bool { return r.LSN == f.check })) && f.end()-f.base <= uint64(f.sectors*logBytes)
}

// P14.2: what no kernel left: the errors, and what is right all the same.
func TestOpenSpoilt(t *testing.T) {
	answers := make([]map[api.Errno]int, 8)
	for part := range answers {
		answers[part] = map[api.Errno]int{}
		t.Run(fmt.Sprint(part), func(t *testing.T) {
			t.Parallel()
			for seed := range 250 {
				p, pick := pastOf(uint64(10000+part*500+seed), 5+seed%50)
				for range 8 {
					f := p.found(pick)
					for range 1 + pick(2) {
						f.spoils(pick)
					}
					if f.mayBeFound() {
						answers[part][restarts(t, func() string { return fmt.Sprint("part ", part, ", seed ", seed) }, f, leastFrames)]++
					}
				}
			}
		})
	}
	t.Cleanup(func() {
		sums := map[api.Errno]int{}
		for _, part := range answers {
			for e, n := range part {
				sums[e] += n
			}
		}
		if sums[api.OK] < 3000 || sums[errForm] < 3000 || sums[-1] > 500 {
			t.Errorf("%v: not a test", sums)
		}
	})
}

// did is a RecDo.
func did(txn uint32, prev uint64, number, root uint32, op api.Op) api.Record {
	return api.Record{Kind: recDo, Txn: txn, Prev: prev, Page: number, Root: root, Op: op}
}

// P14.2: each step's errors, one by one, and ends of transactions of each kind.
func TestOpenSteps(t *testing.T) {
	begin := api.Record{Kind: recBegin, Txn: 1}
	base := []api.Page{{}, heap(), heap(cell("x")), leaf(0, cell("b"))}
	free := func(prev, undo uint64) api.Record {
		return api.Record{Kind: recUndo, Txn: 1, Prev: prev, Undo: undo, Page: 1, Op: api.Op{Kind: opFree}}
	}
	for _, c := range []struct {
		what    string
		records []api.Record
		want    api.Errno
	}{
		{"nothing", nil, api.OK},
		{"begun", []api.Record{begin}, api.OK},
		{"put", []api.Record{begin, did(1, 1, 1, 0, put(0, "a"))}, api.OK},
		{"no right row", []api.Record{begin, did(1, 2, 1, 0, put(0, "a"))}, errForm},
		{"a page beyond the disk", []api.Record{begin, did(1, 1, 4, 0, put(0, "a"))}, errForm},
		{"the last page", []api.Record{begin, did(1, 1, 3, 3, putOf("a"))}, api.OK},
		{"a shape beyond the disk", []api.Record{{Kind: recShape, Images: []api.Image{image(3, heap()), image(4, heap())}}}, errForm},
		{"a shape far beyond the disk", []api.Record{{Kind: recShape, Images: []api.Image{image(greatest, heap())}}}, errForm},
		{"a place that there is not", []api.Record{begin, did(1, 1, 1, 0, put(1, "a"))}, errForm},
		{"a heap that is a leaf", []api.Record{begin, did(1, 1, 3, 0, put(0, "a"))}, errForm},
		{"a leaf that is a heap", []api.Record{begin, did(1, 1, 1, 3, putOf("a"))}, errForm},
		{"a tree that is none", []api.Record{begin, did(1, 1, 3, 1, putOf("a"))}, errForm},
		{"a tree beyond the disk", []api.Record{begin, did(1, 1, 3, 9, putOf("a"))}, errForm},
		{"the cell is gone", []api.Record{begin, did(1, 1, 1, 0, put(0, "a")), {Kind: recShape, Images: []api.Image{image(1, heap())}}}, errForm},
		{"the cell is gone, of one that has committed", []api.Record{begin, did(1, 1, 1, 0, put(0, "a")), {Kind: recCommit, Txn: 1, Prev: 5}, {Kind: recShape, Images: []api.Image{image(1, heap())}}}, api.OK},
		{"taken back", []api.Record{begin, did(1, 1, 1, 0, put(0, "a")), free(5, 0)}, api.OK},
		{"taken back to what there is not", []api.Record{begin, did(1, 1, 1, 0, put(0, "a")), free(5, 3)}, errForm},
		{"taken back to the beginning", []api.Record{begin, did(1, 1, 1, 0, put(0, "a")), free(5, 1)}, errForm},
		{"taken back, and done anew", []api.Record{begin, did(1, 1, 1, 0, put(0, "a")), free(5, 0), did(1, 17, 1, 0, put(0, "b"))}, api.OK},
		{"a number that came again", []api.Record{begin, did(1, 1, 1, 0, put(0, "a")), {Kind: recCommit, Txn: 1, Prev: 5}, {Kind: recEnd, Txn: 1, Prev: 17}, begin, did(1, 27, 1, 0, put(1, "b"))}, api.OK},
		{"to be taken back, ended", []api.Record{begin, did(1, 1, 1, 0, put(0, "a")), {Kind: recEnd, Txn: 1, Prev: 5}}, errForm},
		{"aborted", []api.Record{begin, did(1, 1, 1, 0, put(0, "a")), {Kind: recAbort, Txn: 1, Prev: 5}}, api.OK},
		// From here on there is a checkpoint at 17, and a transaction 1 whose last record is at 5.
		{"beyond the disk, ahead of the checkpoint", []api.Record{begin, did(1, 1, 99, 0, put(0, "a")), {Kind: recCheck, Lives: []api.Live{{Txn: 1, Last: 5, Lost: true}}}, did(1, 5, 1, 0, put(0, "a"))}, api.OK},
		{"a page that is dirty from a record of another one on", []api.Record{begin, did(1, 1, 1, 0, put(0, "a")), {Kind: recCheck, Lives: []api.Live{{Txn: 1, Last: 5, Undo: 5, Lost: true}}, Dirty: []api.Dirty{{Page: 2, From: 5}}}}, api.OK},
		{"a page that is dirty, beyond the disk", []api.Record{begin, did(1, 1, 1, 0, put(0, "a")), {Kind: recCheck, Dirty: []api.Dirty{{Page: 4, From: 5}}}}, errForm},
		{"a page that is not dirty, and was not written", []api.Record{begin, did(1, 1, 1, 0, put(0, "a")), {Kind: recCheck, Lives: []api.Live{{Txn: 1, Last: 5, Undo: 5, Lost: true}}}}, errForm},
		{"nothing to be undone, by the checkpoint", []api.Record{begin, did(1, 1, 1, 0, put(0, "a")), {Kind: recCheck, Lives: []api.Live{{Txn: 1, Last: 5, Lost: true}}}}, api.OK},
		{"another one's operation to be undone", []api.Record{begin, did(1, 1, 1, 0, put(0, "a")), {Kind: recCheck, Lives: []api.Live{{Txn: 2, Last: 5, Undo: 5, Lost: true}}, Dirty: []api.Dirty{{Page: 1, From: 5}}}}, errForm},
		{"committed, by the checkpoint", []api.Record{begin, did(1, 1, 1, 0, put(0, "a")), {Kind: recCheck, Lives: []api.Live{{Txn: 1, Last: 5, Undo: 5}}, Dirty: []api.Dirty{{Page: 1, From: 5}}}}, api.OK},
		{"two checkpoints, the first one with other words", []api.Record{begin, did(1, 1, 1, 0, put(0, "a")), {Kind: recCheck, Lives: []api.Live{{Txn: 1, Last: 5, Lost: true}}}, did(1, 5, 1, 0, put(1, "b")), {Kind: recCheck, Lives: []api.Live{{Txn: 1, Last: 27, Undo: 27, Lost: true}}, Dirty: []api.Dirty{{Page: 1, From: 5}}}}, api.OK},
	} {
		f := found{sectors: leastLog, pages: base, base: 1, records: c.records}
		for _, r := range f.placed() {
			if r.Kind == recCheck {
				f.check = r.LSN
			}
		}
		if got := restarts(t, func() string { return c.what }, f, 8); got != c.want {
			t.Errorf("%s: Open: %d, want %d", c.what, int(got), int(c.want))
		}
	}
}

// P14.2: operations that are to be undone round and round, by a checkpoint's words: the second time it can't be.
func TestOpenRound(t *testing.T) {
	first := []api.Record{{Kind: recBegin, Txn: 1}, did(1, 1, 1, 0, put(0, "a"))}
	check := api.Record{Kind: recCheck, Lives: []api.Live{{Txn: 1, Last: 5, Undo: 99, Lost: true}}, Dirty: []api.Dirty{{Page: 1, From: 5}}}
	at := found{base: 1, records: append(slices.Clip(first), check)}.end()
	b := did(1, 5, 1, 0, put(1, "b"))
	c := did(1, at, 1, 0, put(2, "c"))
	for _, w := range []struct {
		undo    uint64
		records []api.Record
		want    api.Errno
	}{
		{5, []api.Record{b}, api.OK}, {0, []api.Record{b}, api.OK}, {5, []api.Record{b, c}, api.OK},
		{at, []api.Record{b}, errForm}, {at, []api.Record{b, c}, errForm}, {at + uint64(bytesOf(b)), []api.Record{b, c}, errForm}, {at + 1, []api.Record{b, c}, errForm},
	} {
		check.Lives = []api.Live{{Txn: 1, Last: 5, Undo: w.undo, Lost: true}}
		f := found{sectors: leastLog, pages: []api.Page{{}, heap()}, base: 1, check: 17, records: slices.Concat(first, []api.Record{check}, w.records)}
		if k, e := Open(f.disk(t), 8); e != w.want || (k == nil) != (e != api.OK) {
			t.Errorf("Open with %d, %d records: %v, %d, want %d", w.undo, len(w.records), k, int(e), int(w.want))
		}
	}
}

// P14.2: a checkpoint from which the restart does not begin says nothing.
func TestOpenUnmarked(t *testing.T) {
	f := found{sectors: leastLog, pages: []api.Page{{}, heap()}, base: 1, records: []api.Record{{Kind: recBegin, Txn: 1}, did(1, 1, 1, 0, put(0, "a")), {Kind: recCheck, Next: 77, Lives: []api.Live{{Txn: 1, Last: 5, Lost: true}}}, did(1, 5, 1, 0, put(1, "b"))}}
	if got := restarts(t, func() string { return "unmarked" }, f, 8); got != api.OK {
		t.Fatalf("Open: %d", int(got))
	}
	reads(t, opened(t, f.disk(t), 8), 1, heap())
}

// P14.2: a sector that is no page's is in the way only where it is to be redone, or a way leads there.
func TestOpenSector(t *testing.T) {
	for number, want := range map[int]api.Errno{1: errForm, 2: api.OK} {
		f := found{sectors: leastLog, pages: []api.Page{{}, heap(), heap()}, base: 1, records: []api.Record{{Kind: recBegin, Txn: 1}, did(1, 1, 1, 0, put(0, "a"))}}
		d := f.disk(t)
		is(t, "Write", d.Write(leastLog+number, slices.Repeat([]byte{7}, size)), api.OK)
		if k, e := Open(d, 8); e != want || (k == nil) != (e != api.OK) {
			t.Errorf("Open with the page %d spoilt: %v, %d, want %d", number, k, int(e), int(want))
		}
	}
}

// P14.2: a log, left by no kernel, that has no room for the end: neither for the RecUndo, nor for the RecEnd.
func TestOpenFull(t *testing.T) {
	begin := api.Record{Kind: recBegin, Txn: 1}
	for _, c := range []struct {
		first []api.Record
		needs int
	}{{[]api.Record{begin}, 5}, {[]api.Record{begin, did(1, 1, 1, 0, put(0, "a"))}, 12 + 6}} {
		for left := range 30 {
			f := found{sectors: leastLog, pages: []api.Page{{}, heap(), heap()}, base: 1, records: slices.Clone(c.first)}
			for gap := leastLog*logBytes - int(f.end()-1) - left; gap > 0; {
				n := min(gap, 110)
				if gap > 110 && gap < 140 {
					n = 50
				}
				f.records = append(f.records, api.Record{Kind: recShape, Images: []api.Image{image(2, full(n-10))}})
				gap -= n
			}
			if got := int(f.end() - f.base); got != leastLog*logBytes-left {
				t.Fatalf("%d bytes", got)
			}
			want := api.OK
			if left < c.needs {
				want = errFull
			}
			if k, e := Open(f.disk(t), 8); e != want || (k == nil) != (e != api.OK) {
				t.Errorf("Open with room for %d bytes: %v, %d, want %d", left, k, int(e), int(want))
			}
		}
	}
}

// P14.2, P14.11: the power goes at each operation of an Open: that is ErrDark, what is in the log then are the records that were there, and of those that Open appends the first ones; and the next Open comes to the same.
func TestOpenDark(t *testing.T) {
	t.Parallel()
	undone, reset := 0, 0
	for seed := range 30 {
		p, pick := pastOf(uint64(20000+seed), 60)
		f := p.found(pick)
		want, told := f.restarted()
		if !told || want.e != api.OK {
			continue
		}
		all := slices.Concat(f.placed(), want.records)
		for trip := 0; ; trip++ {
			d := f.disk(t)
			d.Trip(trip)
			k, e := Open(d, leastFrames)
			if !d.Dark() {
				is(t, "Open", e, api.OK)
				break
			}
			if k != nil || e != errDark {
				t.Fatalf("seed %d, trip %d: Open: %v, %d", seed, trip, k, int(e))
			}
			image, writes := d.Image(), d.Pending()
			for keep := range 4 {
				y := f.disk(t)
				y.Trip(trip)
				Open(y, leastFrames)
				var kept []bool
				for range writes {
					kept = append(kept, keep == 1 || keep > 1 && pick(2) == 0)
				}
				y.Cut(kept...)
				_, records, e := wal.Open(y)
				is(t, "wal.Open", e, api.OK)
				if len(records) == 0 && len(all) > 0 {
					reset++
				} else if len(records) > len(all) || !slices.EqualFunc(records, all[:len(records)], alikeRecord) {
					t.Fatalf("seed %d, trip %d: the log has\n%+v\nwant of\n%+v", seed, trip, records, all)
				}
				if len(records) > len(f.records) {
					undone++
				}
				k := opened(t, y, 8)
				if got := allPages(t, k); !sameButLSNs(got, want.pages) {
					t.Fatalf("seed %d, trip %d: the pages are%s\nwant%s", seed, trip, shownPages(got), shownPages(want.pages))
				}
				if got := k.Log().Kept(); got != want.next {
					t.Fatalf("seed %d, trip %d: Kept %d, want %d", seed, trip, got, want.next)
				}
			}
			if !bytes.Equal(image, d.Image()) {
				t.Fatal("a dark disk has changed")
			}
		}
	}
	if undone < 100 || reset < 50 {
		t.Errorf("%d logs with records of an Open, %d empty ones: not a test", undone, reset)
	}
}

// P14.2: which operations an Open does where nothing is to be done.
func TestOpenQuiet(t *testing.T) {
	d := formatted(t, leastLog, 5)
	got := counted(d, func() { opened(t, d, 8) })
	// The master, the log's sectors; the Reset: the master, a sync, no sector, a sync, the master, a sync.
	if got != (api.Counts{Reads: 1 + leastLog, Writes: 2, Syncs: 3}) {
		t.Fatalf("%+v were done", got)
	}
}
