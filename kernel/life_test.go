package kernel

import (
	"fmt"
	"slices"
	"testing"

	"cadastre/api"
	"cadastre/disk"
	"cadastre/node"
)

// spot is a cell of a heap's page, or an entry of a tree.
type spot struct {
	page  uint32
	slot  int
	root  uint32
	entry string
}

func spotOf(number, root uint32, op api.Op) spot {
	if root != 0 {
		return spot{root: root, entry: string(op.Data)}
	}
	return spot{page: number, slot: op.Slot}
}

// tame is a maker of scripts that keep to the words: whoever does operations, and makes shapes, leaves alone what others may undo.
type tame struct {
	pick  func(n int) int
	m     *mirror
	roots []uint32
	words int
}

// busy are the spots of what may be undone, each with whose it is.
func (w *tame) busy() map[spot]uint32 {
	all := map[spot]uint32{}
	for txn, x := range w.m.txns {
		for _, d := range x.deeds {
			all[spotOf(d.page, d.root, d.op)] = txn
		}
	}
	return all
}

// txn is a live transaction; 0, if there is none.
func (w *tame) txn() uint32 {
	lives := w.m.lives()
	if len(lives) == 0 {
		return 0
	}
	return lives[w.pick(len(lives))]
}

func (w *tame) word() string {
	w.words++
	s := fmt.Sprintf("%c%d", 'a'+w.pick(26), w.words)
	for range w.pick(4) * w.pick(30) {
		s += "."
	}
	return s
}

// heapDo is a Put or a Kill on a heap's page.
func (w *tame) heapDo(txn uint32) (call, bool) {
	number := uint32(1 + w.pick(len(w.m.pages)-1))
	p := w.m.pages[number]
	if p.Kind != heapKind {
		return call{}, false
	}
	c := call{kind: 'd', txn: txn, page: number, op: put(w.pick(len(p.Cells)+1), w.word())}
	if w.pick(3) == 0 {
		c.op = kill(c.op.Slot, txn)
	}
	return c, true
}

// treeDo is a Put or a Kill in a tree's leaf.
func (w *tame) treeDo(txn uint32) (call, bool) {
	root := w.roots[w.pick(len(w.roots))]
	c := call{kind: 'd', txn: txn, root: root, op: putOf(w.word())}
	cells, e := node.All(w.m.get, root)
	if e == api.OK && len(cells) > 0 && w.pick(3) == 0 {
		c.op.Data = cells[w.pick(len(cells))].Data
		if w.pick(4) > 0 {
			c.op.Kind, c.op.Txn = opKill, txn
		}
	}
	path, e := node.Path(w.m.get, root, string(c.op.Data))
	if e != api.OK {
		panic("no path")
	}
	c.page = path[len(path)-1]
	return c, true
}

// do is a Do that leaves alone what others may undo.
func (w *tame) do() call {
	busy := w.busy()
	for range 100 {
		txn := w.txn()
		if txn == 0 {
			break
		}
		c, made := w.heapDo(txn)
		if w.pick(2) == 0 {
			c, made = w.treeDo(txn)
		}
		if owner, is := busy[spotOf(c.page, c.root, c.op)]; made && (!is || owner == txn) {
			return c
		}
	}
	return call{kind: 'b'}
}

// cleared is a page without the cells that nobody may undo, and that were killed; or without all that nobody may undo.
func (w *tame) cleared(number uint32, p api.Page, all bool) api.Page {
	busy := w.busy()
	p = twinPage(p)
	keeps := func(place int, c api.Cell) bool {
		s := spot{page: number, slot: place}
		if p.Kind == leafKind {
			s = spot{root: w.rootOf(number), entry: string(c.Data)}
		}
		_, is := busy[s]
		return is || c.Killer == 0 && !all
	}
	var cells []api.Cell
	for place, c := range p.Cells {
		switch {
		case keeps(place, c):
			cells = append(cells, c)
		case p.Kind == heapKind:
			cells = append(cells, api.Cell{})
		}
	}
	for len(cells) > 0 && !cells[len(cells)-1].Used {
		cells = cells[:len(cells)-1]
	}
	p.Cells = cells
	return p
}

// rootOf is the root of the tree that a page is of; 0, if it is of none.
func (w *tame) rootOf(number uint32) uint32 {
	for _, root := range w.roots {
		if pages, e := node.Pages(w.m.get, root); e == api.OK && slices.Contains(pages, number) {
			return root
		}
	}
	return 0
}

// shape is a Shape that leaves alone what may be undone: pages are cleared, a tree grows, a new heap's page comes.
func (w *tame) shape() call {
	c := call{kind: 's'}
	switch w.pick(3) {
	case 0:
		root := w.roots[w.pick(len(w.roots))]
		entry := w.word() + "................................................................................"
		path, _ := node.Path(w.m.get, root, entry)
		if n, e := node.Needs(w.m.get, path, entry); e == api.OK && n > 0 {
			if fresh := w.free(n); fresh != nil {
				c.images, _ = node.Split(w.m.get, path, entry, fresh)
				return c
			}
		}
	case 1:
		if fresh := w.free(1); fresh != nil {
			c.images = append(c.images, image(fresh[0], heap(cell(w.word()))))
			return c
		}
	}
	for number := range uint32(len(w.m.pages)) {
		p := w.m.pages[number]
		if (p.Kind == heapKind || p.Kind == leafKind) && w.pick(3) == 0 {
			c.images = append(c.images, image(number, w.cleared(number, p, w.pick(2) == 0)))
		}
	}
	return c
}

// free are so many pages of noughts; none, if there are not.
func (w *tame) free(n int) []uint32 {
	var all []uint32
	for number := 1; number < len(w.m.pages) && len(all) < n; number++ {
		if w.m.pages[number].Kind == 0 {
			all = append(all, uint32(number))
		}
	}
	if len(all) < n {
		return nil
	}
	return all
}

// call is some call.
func (w *tame) call() call {
	switch x := w.pick(100); {
	case x < 8:
		return call{kind: 'b'}
	case x < 62:
		return w.do()
	case x < 72:
		return w.shape()
	case x < 80:
		txn := w.txn()
		c := call{kind: 'k', txn: txn}
		if deeds := w.m.txns[txn].deeds; len(deeds) > 0 && w.pick(3) > 0 {
			c.point = deeds[w.pick(len(deeds))].lsn
		}
		return c
	case x < 88:
		return call{kind: 'c', txn: w.txn()}
	case x < 95:
		return call{kind: 'a', txn: w.txn()}
	}
	return call{kind: 'x'}
}

// life is a kernel's life over cuts.
type life struct {
	t      *testing.T
	what   string
	d      *disk.Disk
	k      *Kernel
	frames int
	w      *tame
	was    []*mirror // behind each call since the last one from which all lasts
	least  uint32    // no number below comes again
	log    []string
}

func lifeOf(t *testing.T, seed uint64) *life {
	pick := picker(seed)
	n, pages := leastLog+pick(4), 14+pick(20)
	v := &life{t: t, what: fmt.Sprint("life ", seed), d: formatted(t, n, pages), frames: leastFrames + pick(4), w: &tame{pick: pick, roots: []uint32{3, 4}}}
	v.w.m = mirrorOf(n, pages)
	v.k = opened(t, v.d, v.frames)
	v.call(call{kind: 's', images: plots()})
	v.call(call{kind: 'x'})
	return v
}

func (v *life) fail(format string, rest ...any) {
	v.t.Helper()
	v.t.Fatalf("%s: %s, behind\n%v", v.what, fmt.Sprintf(format, rest...), v.log)
}

// call does a call; whether the power is still there.
func (v *life) call(c call) bool {
	v.t.Helper()
	m := v.w.m
	v.log = append(v.log, c.String()+"\n")
	got := v.k.call(c)
	if got.e == errDark && v.d.Dark() {
		// What was under way may be there, all of it.
		m.call(c)
		v.was = append(v.was, m.twin())
		return false
	}
	if want := m.call(c); !got.same(want) {
		v.fail("%v answers %+v, want %+v", c, got, want)
	}
	if got.e == api.OK && (c.kind == 'c' || c.kind == 'x') {
		v.was, v.least = nil, m.next
	}
	v.was = append(v.was, m.twin())
	return true
}

// cut cuts the disk, whatever that keeps.
func (v *life) cut() {
	odds := 1 + v.w.pick(3)
	var keep []bool
	for range v.d.Pending() {
		keep = append(keep, v.w.pick(odds) == 0)
	}
	v.d.Cut(keep...)
}

// comesBack opens a new kernel behind a cut, which may be cut again; what P14.11 promises of it.
func (v *life) comesBack() {
	v.t.Helper()
	v.cut()
	for range v.w.pick(4) {
		v.d.Trip(v.w.pick(80))
		k, e := Open(v.d, v.frames)
		if e == api.OK {
			v.d.Trip(-1)
			v.d.Cut(slices.Repeat([]bool{true}, v.d.Pending())...)
			continue
		}
		if k != nil || e != errDark || !v.d.Dark() {
			v.fail("Open with a trip: %d", int(e))
		}
		v.cut()
	}
	k, e := Open(v.d, v.frames)
	if e != api.OK {
		v.fail("Open: %d", int(e))
	}
	got := allPages(v.t, k)
	if !slices.ContainsFunc(v.was, func(was *mirror) bool { return sameButLSNs(was.settled(v.t), got) }) {
		v.fail("behind a cut the pages are%s\nand were, of %d, at first%s\nat last%s", shownPages(got), len(v.was), shownPages(v.was[0].settled(v.t)), shownPages(v.was[len(v.was)-1].settled(v.t)))
	}
	if len(k.Lives()) != 0 || k.Log().Kept() < v.least {
		v.fail("Lives %d, Kept %d, want %d", k.Lives(), k.Log().Kept(), v.least)
	}
	l, m := k.Log(), v.w.m
	m.pages, m.base, m.end, m.mark, m.kept, m.next = got, l.Base(), l.End(), 0, l.Kept(), l.Kept()
	m.records, m.txns, m.used = nil, map[uint32]mtxn{}, map[uint32]bool{}
	v.k, v.was, v.log = k, []*mirror{m.twin()}, nil
	agrees(v.t, func() string { return v.what }, k, m, false)
}

// P14.11, P14.13: long lives over many cuts, whatever they keep.
func TestLives(t *testing.T) {
	for part := range 8 {
		t.Run(fmt.Sprint(part), func(t *testing.T) {
			t.Parallel()
			cuts, between, calls := 0, 0, 0
			for seed := range 40 {
				v := lifeOf(t, uint64(part*1000+seed))
				for range 12 {
					if v.w.pick(8) > 0 {
						v.d.Trip(v.w.pick(150))
					}
					alive := true
					for n := v.w.pick(150); alive && n > 0; n-- {
						calls++
						alive = v.call(v.w.call())
					}
					if alive {
						between++
						v.d.Trip(-1)
					} else {
						cuts++
					}
					v.comesBack()
				}
				for _, root := range v.w.roots {
					is(t, "node.Check", node.Check(v.k.Read, root), api.OK)
				}
			}
			if cuts < 60 || between < 60 || calls < 10000 {
				t.Errorf("%d cuts within calls, %d between, %d calls: not a test", cuts, between, calls)
			}
		})
	}
}

// P14.11: one script, the power gone at each of its operations; nothing kept, all, or some.
func TestEachCut(t *testing.T) {
	for seed := range 8 {
		t.Run(fmt.Sprint(seed), func(t *testing.T) {
			t.Parallel()
			trip := 0
			for cutAt(t, uint64(50000+seed), trip) {
				trip++
			}
			if trip < 20 {
				t.Errorf("%d operations: not a test", trip)
			}
		})
	}
}

// cutAt lives one life three times, up to an operation at which the power goes; false: there are not so many.
func cutAt(t *testing.T, seed uint64, trip int) bool {
	t.Helper()
	for keep := range 3 {
		v := lifeOf(t, seed)
		v.d.Trip(trip)
		alive := true
		for n := 0; alive && n < 150; n++ {
			alive = v.call(v.w.call())
		}
		if alive {
			return false
		}
		var kept []bool
		for i := range v.d.Pending() {
			kept = append(kept, keep == 1 || keep == 2 && (i+trip)%2 == 0)
		}
		v.d.Cut(kept...)
		v.comesBack()
	}
	return true
}

// P14.11: what a Commit, or a Check, answered OK lasts, though nothing else does; and what did not ask for its commit is not there.
func TestWhatLasts(t *testing.T) {
	t.Parallel()
	asked := 0
	for seed := range 100 {
		v := lifeOf(t, uint64(60000+seed))
		for range 120 {
			v.call(v.w.call())
		}
		// Records behind a Commit may last all the same, where a page's writing has flushed them: so it is asked where there are none.
		end := call{kind: 'x'}
		if txn := v.w.txn(); txn != 0 && seed%2 == 0 {
			end = call{kind: 'c', txn: txn}
		}
		if v.call(end); len(v.was) != 1 {
			continue
		}
		asked++
		v.d.Cut()
		if got, want := allPages(t, opened(t, v.d, 8)), v.was[0].settled(t); !sameButLSNs(got, want) {
			t.Fatalf("seed %d: the pages are%s\nwant%s", seed, shownPages(got), shownPages(want))
		}
	}
	if asked < 50 {
		t.Errorf("%d times: not a test", asked)
	}
}

// P14.12: behind Back each page is as at that Point, but for what others, and shapes, did since: of heaps cell by cell.
func TestBackAsIfNot(t *testing.T) {
	t.Parallel()
	backs := 0
	for seed := range 100 {
		v := lifeOf(t, uint64(70000+seed))
		for range 20 {
			v.call(call{kind: 'b'})
			for range 15 {
				v.call(v.w.call())
			}
			txn := v.w.txn()
			if txn == 0 {
				continue
			}
			point, at := v.k.Point(txn), allPages(t, v.k)
			alone := seed%2 == 0
			others := map[spot]bool{}
			for range 1 + v.w.pick(12) {
				c := v.w.do()
				if c.kind != 'd' || alone && c.txn != txn {
					continue
				}
				point := v.k.Point(c.txn)
				v.call(c)
				if c.txn != txn && point != v.k.Point(c.txn) {
					others[spotOf(c.page, c.root, c.op)] = true
				}
			}
			now := allPages(t, v.k)
			if !v.call(call{kind: 'k', txn: txn, point: point}) {
				t.Fatal("the power has gone")
			}
			backs++
			got := allPages(t, v.k)
			if len(others) == 0 && !sameButLSNs(got, at) {
				t.Fatalf("seed %d: behind Back the pages are%s\nwant%s", seed, shownPages(got), shownPages(at))
			}
			for number := range got {
				want := cellsOf(v.w, uint32(number), at[number], others, false)
				for s, c := range cellsOf(v.w, uint32(number), now[number], others, true) {
					want[s] = c
				}
				is := cellsOf(v.w, uint32(number), got[number], others, false)
				for s, c := range cellsOf(v.w, uint32(number), got[number], others, true) {
					is[s] = c
				}
				if fmt.Sprint(is) != fmt.Sprint(want) || got[number].Kind != at[number].Kind || got[number].Next != at[number].Next {
					t.Fatalf("seed %d: behind Back the page %d is %s, was %s, and %s in between", seed, number, shown(got[number]), shown(at[number]), shown(now[number]))
				}
			}
		}
	}
	if backs < 500 {
		t.Errorf("%d times back: not a test", backs)
	}
}

// cellsOf are the cells in use of a page that others have touched, or those that they have not.
func cellsOf(w *tame, number uint32, p api.Page, others map[spot]bool, touched bool) map[string]string {
	all := map[string]string{}
	for place, c := range p.Cells {
		s := spot{page: number, slot: place}
		if p.Kind == leafKind {
			s = spot{root: w.rootOf(number), entry: string(c.Data)}
		}
		if c.Used && others[s] == touched {
			all[fmt.Sprint(s)] = fmt.Sprint(c)
		}
	}
	return all
}

// P14.13: where numbers, places and LSNs are as great as they may be, there is room for the end of whatever was let in.
func TestRoomForTheEnd(t *testing.T) {
	for seed := range 60 {
		pick := picker(uint64(80000 + seed))
		n := leastLog + pick(3)
		sectors := 8192
		d := formatted(t, n, sectors-1-n)
		// The log stands close to where it ends for good, and the numbers are great.
		base := uint64(1)<<62 - uint64(n*logBytes)
		if seed%3 == 0 {
			base = 1<<62 - 3000
		}
		is(t, "Write", d.Write(0, masterOf(n, base, 0, greatest-60)), api.OK)
		k := opened(t, d, 8)
		last := uint32(k.Pages())
		// What is killed are cells that have committed.
		old := heap()
		for range 40 {
			old.Cells = append(old.Cells, cell("c"))
		}
		shapes(t, k, image(last-2, old), image(last-1, inner(last, childCell("m", last-3))), image(last, leaf(last-3)))
		shapes(t, k, image(last-3, leaf(0)))
		full := 0
		for round := range 1000 {
			if txn, e := k.Begin(); e != errFull && (e != api.OK || txn < greatest-60) {
				t.Fatalf("Begin: %d, %d", txn, int(e))
			}
			lives := k.Lives()
			if len(lives) == 0 {
				break
			}
			txn := lives[pick(len(lives))]
			var e api.Errno
			data := fmt.Sprintf("%c%d", 'a'+pick(26), round)
			for range pick(2) * pick(120) {
				data += "x"
			}
			switch pick(3) {
			case 0:
				p, _ := k.Read(last - 2)
				e = k.Do(txn, last-2, 0, put(len(p.Cells), data))
			case 1:
				p, _ := k.Read(last - 2)
				if place := pick(40); p.Cells[place].Killer == 0 {
					e = k.Do(txn, last-2, 0, kill(place, txn))
				}
			case 2:
				path, _ := node.Path(k.Read, last-1, data)
				e = k.Do(txn, path[len(path)-1], last-1, putOf(data))
			}
			if e == errFull && k.Log().Room()-k.kept() < 300 {
				full++
			}
			if pick(12) == 0 && k.Point(txn) != 0 {
				is(t, "Back", k.Back(txn, k.Point(txn)), api.OK)
				is(t, "Back", k.Back(txn, 0), api.OK)
			}
			if pick(8) == 0 {
				if e := k.Check(); e != api.OK && e != errFull {
					t.Fatalf("Check: %d", int(e))
				}
			}
		}
		if full < 10 {
			t.Errorf("seed %d: %d times full: not a test", seed, full)
		}
		if seed%2 == 0 {
			d.Cut(slices.Repeat([]bool{true}, d.Pending())...)
			opened(t, d, 8)
			continue
		}
		for _, txn := range k.Lives() {
			what := []string{"Abort", "Back, Commit"}[pick(2)]
			if what == "Abort" {
				is(t, what, k.Abort(txn), api.OK)
				continue
			}
			is(t, what, k.Back(txn, 0), api.OK)
			is(t, what, k.Commit(txn), api.OK)
		}
		is(t, "Check", k.Check(), api.OK)
	}
}
