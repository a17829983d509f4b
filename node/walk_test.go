package node

import (
	"slices"
	"testing"

	"cadastre/api"
)

// P8.5: a right tree, an empty leaf among its leaves; each page ahead of its children, these from left to right.
func TestOver(t *testing.T) {
	g := fourLeaves()
	order := []uint32{1, 2, 4, 5, 3, 6, 7, 8}
	checks(t, g, 1, api.OK)
	asksFor(t, "Check", g, order)
	alls(t, g, 1, []string{"a", "c", "f", "g", "m", "t", "z"}, api.OK)
	asksFor(t, "All", g, order)
	pages(t, g, 1, []uint32{1, 2, 3, 4, 5, 6, 7, 8}, api.OK)
	asksFor(t, "Pages", g, order)
	one := groveOf(map[uint32]api.Page{7: leaf(0)})
	checks(t, one, 7, api.OK)
	alls(t, one, 7, nil, api.OK)
	pages(t, one, 7, []uint32{7}, api.OK)
}

// P8.5: what was killed is told as it stands.
func TestAllKilled(t *testing.T) {
	g := fourLeaves()
	cells := []api.Cell{dead(1<<32-1, "f"), cell("g"), dead(1, "h")}
	g.set(5, api.Page{Kind: leafKind, LSN: 9, Next: 6, Cells: cells})
	got, e := All(g.get, 1)
	if e != api.OK || !sameCells(got[2:5], cells) || len(got) != 8 {
		t.Errorf("All: %s, %d", shownPage(api.Page{Cells: got}), int(e))
	}
	checks(t, g, 1, api.OK)
}

// P8.5: get's error, of whichever page; what is wrong ahead of it is told first.
func TestOverErrors(t *testing.T) {
	for number := uint32(1); number <= 8; number++ {
		g := fourLeaves()
		g.errs[number] = 88
		checks(t, g, 1, 88)
		alls(t, g, 1, nil, 88)
		pages(t, g, 1, nil, 88)
	}
	g := fourLeaves()
	g.errs[5] = 88
	g.errs[3] = 89
	checks(t, g, 1, 88)
	asksFor(t, "Check", g, []uint32{1, 2, 4, 5})
	g.set(4, leaf(5, "a", "zz"))
	checks(t, g, 1, api.ErrForm)
	asksFor(t, "Check", g, []uint32{1, 2, 4})
	alls(t, g, 1, nil, 88)
	pages(t, g, 1, nil, 88)
}

// P8.5: a page that is reached twice: as its own child, as a child of two, as two children of one; it is not asked for again.
func TestTwice(t *testing.T) {
	for _, c := range []struct {
		number uint32
		p      api.Page
		asked  []uint32
	}{
		{1, inner(2, to("m", 1)), []uint32{1, 2, 4, 5}},
		{1, inner(1, to("m", 3)), []uint32{1}},
		{1, inner(2, to("m", 2)), []uint32{1, 2, 4, 5}},
		{3, inner(5, to("t", 8)), []uint32{1, 2, 4, 5, 3}},
		{3, inner(6, to("m", 6), to("t", 8)), []uint32{1, 2, 4, 5, 3, 6}},
		{3, inner(6, to("m", 7), to("t", 2)), []uint32{1, 2, 4, 5, 3, 6, 7}},
	} {
		g := fourLeaves()
		g.set(c.number, c.p)
		checks(t, g, 1, api.ErrForm)
		asksFor(t, "Check", g, c.asked)
		alls(t, g, 1, nil, api.ErrForm)
		asksFor(t, "All", g, c.asked)
		pages(t, g, 1, nil, api.ErrForm)
		asksFor(t, "Pages", g, c.asked)
	}
}

// highTree is a tree of n pages on each way, two children a page.
func highTree(n int) (*grove, uint32) {
	m := &maker{pick: picker(n), g: groveOf(map[uint32]api.Page{}), many: 1}
	return m.g, m.tree(n, false)
}

// P8.5: eight pages down, and not one more; the ninth is not asked for.
func TestOverHigh(t *testing.T) {
	for n := 1; n < 11; n++ {
		g, root := highTree(n)
		want := api.OK
		if n > mostHigh {
			want = api.ErrForm
		}
		if e := agreeWhole(t, g, root); e != want {
			t.Errorf("Check of a tree of %d pages on a way: %d", n, int(e))
		}
	}
	g, root := highTree(9)
	at := root
	for range mostHigh {
		at = g.pages[at].Next
	}
	g.errs[at] = 88
	checks(t, g, root, api.ErrForm)
	pages(t, g, root, nil, api.ErrForm)
}

// P8.5: Check alone asks that entries are some.
func TestCheckEntries(t *testing.T) {
	for n := 140; n <= mostCell; n++ {
		want := api.OK
		if n > mostEntry {
			want = api.ErrForm
		}
		for _, cells := range [][]api.Cell{{cell(long("z", n))}, {cell("t"), cell(long("z", n))}, {cell(long("t", n)), cell("z")}} {
			g := fourLeaves()
			g.set(8, api.Page{Kind: leafKind, Cells: cells})
			checks(t, g, 1, want)
			pages(t, g, 1, []uint32{1, 2, 3, 4, 5, 6, 7, 8}, api.OK)
		}
		if n > mostCell-4 {
			continue
		}
		g := fourLeaves()
		g.set(1, inner(2, to(long("l", n), 3)))
		checks(t, g, 1, want)
		alls(t, g, 1, []string{"a", "c", "f", "g", "m", "t", "z"}, api.OK)
	}
}

// P8.5: Check alone asks where entries lie: at the borders of each child, of leaves and of inner pages.
func TestCheckBorders(t *testing.T) {
	for _, c := range []struct {
		number uint32
		p      api.Page
		want   api.Errno
	}{
		{4, leaf(5, "\x00", "e\xff"), api.OK}, {4, leaf(5, "a", "f"), api.ErrForm}, {4, leaf(5, "f\x00"), api.ErrForm}, {4, leaf(5, "z"), api.ErrForm},
		{5, leaf(6, "f"), api.OK}, {5, leaf(6, "f\x00"), api.OK}, {5, leaf(6, "e\xff"), api.ErrForm}, {5, leaf(6, "e", "g"), api.ErrForm},
		{5, leaf(6, "l\xff\xff"), api.OK}, {5, leaf(6, "g", "m"), api.ErrForm}, {5, leaf(6, "g", "m\x00"), api.ErrForm},
		{6, leaf(7, "m"), api.ErrForm}, {6, leaf(7, "l"), api.ErrForm}, {6, leaf(7, "n"), api.ErrForm},
		{7, leaf(8, "m", "s\xff"), api.OK}, {7, leaf(8, "l\xff"), api.ErrForm}, {7, leaf(8, "t"), api.ErrForm},
		{8, leaf(0, "t"), api.OK}, {8, leaf(0, "\xff\xff"), api.OK}, {8, leaf(0, "s\xff"), api.ErrForm},
		{2, inner(4, to("d", 5)), api.OK}, {2, inner(4, to("c", 5)), api.ErrForm}, {2, inner(4, to("c\x00", 5)), api.OK}, {2, inner(4, to("g", 5)), api.ErrForm},
		{2, inner(4, to("m", 5)), api.ErrForm}, {2, inner(4, to("n", 5)), api.ErrForm},
		{3, inner(6, to("m", 7), to("n", 8)), api.OK}, {3, inner(6, to("l", 7), to("t", 8)), api.ErrForm}, {3, inner(6, to("m", 7), to("\xff", 8)), api.ErrForm}, {3, inner(6, to("n", 7), to("t", 8)), api.ErrForm},
		{1, inner(2, to("h", 3)), api.OK}, {1, inner(2, to("g", 3)), api.ErrForm}, {1, inner(2, to("m\x00", 3)), api.ErrForm}, {1, inner(2, to("m\x00\x00\x00", 3)), api.ErrForm},
	} {
		g := fourLeaves()
		g.set(c.number, c.p)
		checks(t, g, 1, c.want)
		pages(t, g, 1, []uint32{1, 2, 3, 4, 5, 6, 7, 8}, api.OK)
		if e := agreeWhole(t, g, 1); e != c.want {
			t.Errorf("the words tell %d, the test wants %d: %v", int(e), int(c.want), g)
		}
	}
}

// P8.5: a border of the root holds in all pages below, not in the next ones alone.
func TestCheckDeepBorders(t *testing.T) {
	for _, c := range []struct {
		left, right string
		want        api.Errno
	}{{"l", "m", api.OK}, {"l", "l\xff", api.ErrForm}, {"m", "m", api.ErrForm}, {"b", "zz", api.OK}, {"zz", "zz", api.ErrForm}, {"b", "b", api.ErrForm}} {
		g := groveOf(map[uint32]api.Page{
			1: inner(2, to("m", 3)),
			2: inner(4, to("b", 5)), 3: inner(6, to("p", 7)),
			4: inner(8, to("aa", 9)), 5: inner(10, to("c", 11)), 6: inner(12, to("n", 13)), 7: inner(14, to("q", 15)),
			8: leaf(9, "a"), 9: leaf(10), 10: leaf(11), 11: leaf(12, c.left), 12: leaf(13), 13: leaf(14), 14: leaf(15), 15: leaf(0, "s"),
		})
		if c.right < "n" {
			g.set(12, leaf(13, c.right))
		} else {
			g.set(15, leaf(0, c.right))
		}
		if c.left == "b" {
			g.set(11, leaf(12))
			g.set(10, leaf(11, "b"))
		}
		checks(t, g, 1, c.want)
	}
}

// P8.5: leaves that lie higher or deeper than the first one.
func TestCheckDeep(t *testing.T) {
	for _, pages := range []map[uint32]api.Page{
		{1: inner(2, to("m", 3)), 2: leaf(4, "a"), 3: inner(4, to("t", 5)), 4: leaf(5, "n"), 5: leaf(0, "t")},
		{1: inner(2, to("m", 3)), 2: inner(4, to("f", 5)), 4: leaf(5, "a"), 5: leaf(3, "f"), 3: leaf(0, "t")},
		{1: inner(2, to("m", 3), to("t", 4)), 2: leaf(5, "a"), 3: inner(5, to("n", 6)), 5: leaf(6, "m"), 6: leaf(4, "n"), 4: leaf(0, "z")},
	} {
		g := groveOf(pages)
		checks(t, g, 1, api.ErrForm)
		if cells, e := All(g.get, 1); e != api.OK || len(cells) < 3 {
			t.Errorf("All: %d cells, %d", len(cells), int(e))
		}
		if numbers, e := Pages(g.get, 1); e != api.OK || len(numbers) != len(pages) {
			t.Errorf("Pages: %v, %d", numbers, int(e))
		}
	}
	// As soon as the leaf is come to: what lies behind it is not asked for.
	g := groveOf(map[uint32]api.Page{1: inner(2, to("m", 3), to("t", 4)), 2: inner(5, to("f", 6)), 5: leaf(6), 6: leaf(3), 3: leaf(4)})
	checks(t, g, 1, api.ErrForm)
	asksFor(t, "Check", g, []uint32{1, 2, 5, 6, 3})
}

// P8.5: the leaves' Next tell them from left to right, the last one's is 0; it is asked at last.
func TestCheckNext(t *testing.T) {
	order := []uint32{4, 5, 6, 7, 8, 0}
	for i := range 5 {
		for _, next := range []uint32{0, 1, 2, 3, 4, 5, 6, 7, 8, 9, 1 << 31} {
			g := fourLeaves()
			p := g.pages[order[i]]
			p.Next = next
			g.set(order[i], p)
			want := api.OK
			if next != order[i+1] {
				want = api.ErrForm
			}
			checks(t, g, 1, want)
			asksFor(t, "Check", g, []uint32{1, 2, 4, 5, 3, 6, 7, 8})
			alls(t, g, 1, []string{"a", "c", "f", "g", "m", "t", "z"}, api.OK)
			g.errs[8] = 88
			checks(t, g, 1, 88)
		}
	}
	checks(t, groveOf(map[uint32]api.Page{7: leaf(7)}), 7, api.ErrForm)
	checks(t, groveOf(map[uint32]api.Page{7: leaf(8)}), 7, api.ErrForm)
}

// P8.5: the pages' numbers rise, whatever the order in which they are come to.
func TestPagesRise(t *testing.T) {
	for seed := range 200 {
		m, root := made(40000 + seed)
		got, e := Pages(m.g.get, root)
		if want := slices.Sorted(slices.Values(m.numbers)); e != api.OK || !slices.Equal(got, want) {
			t.Fatalf("Pages: %v, %d, want %v", got, int(e), want)
		}
	}
}
