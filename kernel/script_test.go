package kernel

import (
	"fmt"
	"slices"
	"strings"
	"testing"

	"cadastre/api"
	"cadastre/disk"
	"cadastre/node"
)

// stand is a kernel and its mirror.
type stand struct {
	d *disk.Disk
	k *Kernel
	m *mirror
}

// standOf is a new one, with so many pages.
func standOf(t *testing.T, n, pages, frames int) *stand {
	t.Helper()
	d := formatted(t, n, pages)
	return &stand{d, opened(t, d, frames), mirrorOf(n, pages)}
}

// plots are pages of each kind: heaps 1 and 2, a tree of one leaf 3, a tree of two leaves 5 and 6 with the root 4; 7 and 8 are noughts, and not in use.
func plots() []api.Image {
	return []api.Image{
		image(1, heap()),
		image(2, heap(cell("old"), api.Cell{}, dead(99, "dead"), cell("new"))),
		image(3, leaf(0, cell("b"), dead(99, "d"))),
		image(4, inner(5, childCell("m", 6))),
		image(5, leaf(6, cell("a"), cell("f"))),
		image(6, leaf(0, cell("m"), dead(99, "p"), cell("x"))),
	}
}

// step makes a call, by what a mirror has come to.
type step func(m *mirror) call

// same makes that call, whatever there is.
func same(c call) step { return func(*mirror) call { return c } }

// backTo goes back to a transaction's deed of a place.
func backTo(txn uint32, place int) step {
	return func(m *mirror) call {
		c := call{kind: 'k', txn: txn, point: 7777}
		if x := m.txns[txn]; place < len(x.deeds) {
			c.point = x.deeds[place].lsn
		}
		return c
	}
}

// steps are calls of all kinds.
func steps() []step {
	s := func(images ...api.Image) step { return same(call{kind: 's', images: images}) }
	d := func(txn, number, root uint32, op api.Op) step {
		return same(call{kind: 'd', txn: txn, page: number, root: root, op: op})
	}
	return []step{
		same(call{kind: 'b'}),
		d(1, 1, 0, put(0, "v")), d(1, 1, 0, put(1, "w")), d(1, 2, 0, kill(0, 1)), d(1, 2, 0, put(1, "u")), d(1, 3, 3, putOf("c")), d(1, 3, 3, killOf("b", 1)), d(1, 6, 4, putOf("q")), d(1, 5, 4, killOf("f", 1)), d(1, 6, 4, putOf("c")),
		d(2, 1, 0, put(0, "y")), d(2, 1, 0, put(1, "z")), d(2, 2, 0, kill(3, 2)), d(2, 3, 3, putOf("e")), d(2, 3, 3, killOf("c", 2)), d(2, 2, 0, kill(0, 1)), d(2, 7, 0, put(0, "r")),
		s(image(1, heap(cell("s")))), s(image(3, inner(7, childCell("c", 8))), image(7, leaf(8, cell("b"))), image(8, leaf(0, cell("c"), cell("d")))), s(image(2, leaf(0)), image(9, heap())), s(image(5, heap())),
		same(call{kind: 'k', txn: 1}), same(call{kind: 'k', txn: 2}), backTo(1, 0), backTo(1, 1), backTo(2, 0),
		same(call{kind: 'c', txn: 1}), same(call{kind: 'c', txn: 2}), same(call{kind: 'a', txn: 1}), same(call{kind: 'a', txn: 2}), same(call{kind: 'x'}),
		same(call{kind: 'f', n: 2}), same(call{kind: 'u', pages: []uint32{2, 8}}), same(call{kind: 'r', pages: []uint32{1, 2, 77}}),
	}
}

// plays follows a script from a beginning of its own, and asks at the end what the log has.
func plays(t *testing.T, first, script []step) {
	t.Helper()
	x := standOf(t, leastLog, 8, leastFrames)
	var done strings.Builder
	what := func() string { return done.String() }
	all := slices.Concat([]step{same(call{kind: 's', images: plots()})}, first, script)
	for i, s := range all {
		c := s(x.m)
		follows(t, what, x.k, x.m, c, i == len(all)-1)
		fmt.Fprintf(&done, "%v; ", c)
	}
	agreesInLog(t, what, x.d, x.k, x.m)
}

// P14.3 to P14.9: all scripts of two calls, and every third one of three, where somebody lives, behind beginnings of several kinds.
func TestScripts(t *testing.T) {
	b := same(call{kind: 'b'})
	d := func(txn, number, root uint32, op api.Op) step {
		return same(call{kind: 'd', txn: txn, page: number, root: root, op: op})
	}
	firsts := [][]step{
		nil,
		{b, b, d(1, 1, 0, put(0, "v")), d(2, 1, 0, put(1, "z")), d(1, 3, 3, putOf("c")), d(1, 2, 0, kill(0, 1))},
		{b, b, d(1, 3, 3, killOf("b", 1)), d(1, 3, 3, putOf("c")), d(2, 2, 0, kill(3, 2)), d(2, 3, 3, putOf("e")), d(1, 6, 4, putOf("q")), same(call{kind: 'x'}), backTo(1, 1)},
	}
	for i, first := range firsts {
		for j, one := range steps() {
			t.Run(fmt.Sprint(i, "-", j), func(t *testing.T) {
				t.Parallel()
				plays(t, first, []step{one})
				for k, two := range steps() {
					plays(t, first, []step{one, two})
					for l, three := range steps() {
						if first != nil && (j+k+l)%3 == 0 {
							plays(t, first, []step{one, two, three})
						}
					}
				}
			})
		}
	}
}

// wild is a maker of scripts that keep to nothing.
type wild struct {
	pick  func(n int) int
	m     *mirror
	long  bool
	crowd bool // transactions end seldom, and there are few checkpoints
}

// txn is a transaction, one that is live, as a rule.
func (w wild) txn() uint32 {
	if lives := w.m.lives(); len(lives) > 0 && w.pick(30) > 0 {
		return lives[w.pick(len(lives))]
	}
	return uint32(w.pick(int(w.m.next) + 2))
}

// page is a page, one that there is, as a rule.
func (w wild) page() uint32 {
	if w.pick(40) == 0 {
		return []uint32{0, uint32(len(w.m.pages)), uint32(len(w.m.pages)) + 1, greatest}[w.pick(4)]
	}
	return uint32(1 + w.pick(len(w.m.pages)-1))
}

// data are bytes of a cell.
func (w wild) data() string {
	letters := []string{"a", "b", "c", "d", "f", "m", "p", "q", "x", "\x00", "\xff"}
	s := letters[w.pick(len(letters))]
	switch w.pick(8) {
	case 0:
		s += strings.Repeat(letters[w.pick(len(letters))], w.pick(20))
	case 1:
		if w.long {
			s += strings.Repeat(letters[w.pick(len(letters))], 100+w.pick(82))
		}
	case 2:
		s += fmt.Sprint(w.pick(100))
	}
	if w.pick(100) == 0 {
		return ""
	}
	return s
}

// do is a Do of a heap's or a leaf's page.
func (w wild) do() call {
	c := call{kind: 'd', txn: w.txn(), page: w.page()}
	c.op = api.Op{Kind: opPut, Data: []byte(w.data())}
	p, _ := w.m.get(c.page)
	switch {
	case p.Kind == heapKind || w.pick(20) == 0:
		c.op.Slot = w.pick(len(p.Cells) + 1 + w.pick(2))
		if w.pick(3) == 0 {
			c.op.Data, c.op.Kind, c.op.Txn = nil, opKill, c.txn
		}
	default:
		c.root = []uint32{3, 4}[w.pick(2)]
		if w.pick(3) == 0 {
			if len(p.Cells) > 0 {
				c.op.Data = slices.Clone(p.Cells[w.pick(len(p.Cells))].Data)
			}
			c.op.Kind, c.op.Txn = opKill, c.txn
		}
		if path, e := node.Path(w.m.get, c.root, string(c.op.Data)); e == api.OK && w.pick(10) > 0 {
			c.page = path[len(path)-1]
		}
	}
	switch w.pick(120) {
	case 0:
		c.op.Kind = w.pick(6)
	case 1:
		c.op.Slot = []int{-1, 1, 59, 60, 61, 1 << 40}[w.pick(6)]
	case 2:
		c.op.Txn = uint32(w.pick(4))
	case 3:
		c.root = w.page()
	}
	return c
}

// shape is a Shape of pages that were, of new ones, or of a tree that is divided.
func (w wild) shape() call {
	c := call{kind: 's'}
	if w.pick(2) == 0 {
		root := []uint32{3, 4}[w.pick(2)]
		entry := w.data() + strings.Repeat("e", 60)
		if path, e := node.Path(w.m.get, root, entry); e == api.OK {
			if n, e := node.Needs(w.m.get, path, entry); e == api.OK && n > 0 {
				fresh := w.m.twin().fresh(call{n: n})
				c.images, _ = node.Split(w.m.get, path, entry, fresh.pages)
				return c
			}
		}
	}
	for number := 1; number < len(w.m.pages); number++ {
		if w.pick(len(w.m.pages)) > 1 {
			continue
		}
		to := w.m.pages[number]
		switch w.pick(6) {
		case 0:
			to = w.m.pages[1+w.pick(len(w.m.pages)-1)]
		case 1:
			to = heap()
		case 2:
			to = leaf(0)
		}
		c.images = append(c.images, image(uint32(number), lsnOf(to, uint64(w.pick(3)))))
	}
	if len(c.images) > 0 && w.pick(10) == 0 {
		c.images[w.pick(len(c.images))].Page = w.page()
	}
	return c
}

// point is a point of a transaction, as a rule.
func (w wild) point(txn uint32) uint64 {
	x := w.m.txns[txn]
	if len(x.deeds) == 0 || w.pick(4) == 0 {
		return 0
	}
	if w.pick(20) == 0 {
		return uint64(w.pick(int(w.m.end) + 2))
	}
	return x.deeds[w.pick(len(x.deeds))].lsn
}

// call is some call.
func (w wild) call() call {
	x := w.pick(200)
	if w.crowd && x >= 158 && x < 185 && w.pick(3) > 0 {
		return w.do()
	}
	switch {
	case x < 14:
		return call{kind: 'b'}
	case x < 136:
		return w.do()
	case x < 144:
		return w.shape()
	case x < 158:
		txn := w.txn()
		return call{kind: 'k', txn: txn, point: w.point(txn)}
	case x < 168:
		return call{kind: 'c', txn: w.txn()}
	case x < 180:
		return call{kind: 'a', txn: w.txn()}
	case x < 185:
		return call{kind: 'x'}
	case x < 190:
		return call{kind: 'u', pages: []uint32{w.page(), w.page()}}
	case x < 195:
		return call{kind: 'f', n: w.pick(4) - w.pick(2)}
	}
	return call{kind: 'r', pages: []uint32{w.page(), w.page(), w.page()}}
}

// P14.3 to P14.9, P14.13: long scripts, on few frames; the log comes to its end, too.
func TestLongScripts(t *testing.T) {
	errors := make([]map[byte]map[api.Errno]int, 8)
	for part := range errors {
		errors[part] = map[byte]map[api.Errno]int{}
		t.Run(fmt.Sprint(part), func(t *testing.T) {
			t.Parallel()
			for seed := range 50 {
				w := wild{pick: picker(uint64(part*1000 + seed)), long: seed%3 > 0, crowd: seed%4 > 1}
				x := standOf(t, leastLog+w.pick(3), 8+w.pick(20), leastFrames+w.pick(6))
				w.m = x.m
				what := func() string { return fmt.Sprintf("part %d, seed %d", part, seed) }
				follows(t, what, x.k, x.m, call{kind: 's', images: plots()}, true)
				pages := seed%2 == 0
				for range 300 + 300*(seed%4) {
					c := w.call()
					a := follows(t, what, x.k, x.m, c, pages)
					if errors[part][c.kind] == nil {
						errors[part][c.kind] = map[api.Errno]int{}
					}
					errors[part][c.kind][a.e]++
				}
				agrees(t, what, x.k, x.m, true)
				agreesInLog(t, what, x.d, x.k, x.m)
			}
		})
	}
	t.Cleanup(func() {
		sums := map[byte]map[api.Errno]int{}
		for _, part := range errors {
			for kind, l := range part {
				if sums[kind] == nil {
					sums[kind] = map[api.Errno]int{}
				}
				for e, n := range l {
					sums[kind][e] += n
				}
			}
		}
		for _, want := range []struct {
			kind   byte
			errors []api.Errno
		}{
			{'b', []api.Errno{api.OK, errFull}},
			{'d', []api.Errno{api.OK, errTxn, errArg, errRange, errForm, errThere, errNone, errFull}},
			{'s', []api.Errno{api.OK, errArg, errRange, errForm, errFull}},
			{'k', []api.Errno{api.OK, errTxn, errArg, errForm}},
			{'c', []api.Errno{api.OK, errTxn}},
			{'a', []api.Errno{api.OK, errTxn, errForm}},
			{'x', []api.Errno{api.OK, errFull}},
			{'u', []api.Errno{api.OK, errRange}},
			{'f', []api.Errno{api.OK, errArg, errFull}},
		} {
			for _, e := range want.errors {
				if sums[want.kind][e] < 5 {
					t.Errorf("%c answered %d only %d times: not a test", want.kind, int(e), sums[want.kind][e])
				}
			}
			for _, e := range []api.Errno{api.OK, errTxn, errArg, errRange, errForm, errThere, errNone, errFull, errLong} {
				if n := sums[want.kind][e]; n > 0 && !slices.Contains(want.errors, e) && want.kind != 's' {
					t.Errorf("%c answered %d %d times", want.kind, int(e), n)
				}
			}
		}
	})
}
