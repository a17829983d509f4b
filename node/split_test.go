package node

import (
	"slices"
	"strings"
	"testing"

	"cadastre/api"
)

// row is cells of so many bytes each, with rising entries: the first byte tells the place.
func row(lengths ...int) []api.Cell {
	var cells []api.Cell
	for i, n := range lengths {
		cells = append(cells, cell(long(string(rune('a'+i)), n)))
	}
	return cells
}

// lengthsOf tells how many bytes each cell has.
func lengthsOf(p api.Page) []int {
	var list []int
	for _, c := range p.Cells {
		list = append(list, len(c.Data))
	}
	return list
}

// filled is cells that make a page of so many bytes.
func filled(size int) []api.Cell {
	var lengths []int
	for left := size - 18; left > 0; {
		n := min(left, 106)
		if left-n > 0 && left-n < 20 {
			n -= 20
		}
		lengths = append(lengths, n-6)
		left -= n
	}
	return row(lengths...)
}

// P8.3: 0, if a cell of that entry has room in the leaf: by its bytes, and by the cells there.
func TestRoom(t *testing.T) {
	for n := 1; n <= mostEntry; n++ {
		for size := 300; size <= pageBytes; size++ {
			entry, want := long("bz", max(n, 2))[:n], 0
			if size+6+n > pageBytes {
				want = 2
			}
			needs(t, groveOf(map[uint32]api.Page{7: {Kind: leafKind, Cells: filled(size)}}), []uint32{7}, entry, want, api.OK)
		}
	}
	for n := 55; n <= 60; n++ {
		p := api.Page{Kind: leafKind}
		for i := range n {
			p.Cells = append(p.Cells, cell(string([]byte{byte(2 * i)})))
		}
		for _, entry := range []string{"\x01", "\x07", "\x71", "\xff"} {
			g := groveOf(map[uint32]api.Page{7: p})
			want := 0
			if n == mostCells {
				want = 2
			}
			needs(t, g, []uint32{7}, entry, want, api.OK)
			agreePath(t, g, []uint32{7}, entry)
		}
	}
}

// P8.3: what is wrong first, in the order of the words.
func TestNeedsOrder(t *testing.T) {
	full := api.Page{Kind: leafKind, Cells: row(140, 140, 140)}
	g := groveOf(map[uint32]api.Page{1: inner(2, to("m", 3)), 2: full, 3: leaf(0, "n"), 4: {Kind: heapKind}})
	for _, s := range notEntries() {
		for _, path := range [][]uint32{nil, {0}, {0, 2}, {1}, {1, 2}, {4}, {99}} {
			needs(t, g, path, s, 0, api.ErrArg)
			splits(t, g, path, s, nil, nil, api.ErrArg)
		}
	}
	for _, path := range [][]uint32{nil, {}, {0}, {0, 1, 2}} {
		needs(t, g, path, "c", 0, api.ErrArg)
	}
	asksFor(t, "calls with wrong arguments", g, nil)
	needs(t, g, []uint32{4, 0}, "c", 0, api.ErrForm)
	needs(t, g, []uint32{99, 0}, "c", 0, noPage)
	there := string(full.Cells[1].Data)
	g.asks()
	for _, path := range [][]uint32{{1}, {1, 3}, {1, 2, 3}, {1, 2, 2}, {1, 0}, {1, 99}, {1, 1, 2}} {
		needs(t, g, path, there, 0, api.ErrArg)
		asksFor(t, "Needs", g, []uint32{1, 2})
	}
	needs(t, g, []uint32{1, 2}, there, 0, api.ErrThere)
	splits(t, g, []uint32{1, 2}, there, nil, nil, api.ErrThere)
	splits(t, g, []uint32{1, 2}, there, []uint32{0, 0}, nil, api.ErrThere)
	needs(t, g, []uint32{1, 2}, long("bc", 100), 1, api.OK)
	needs(t, g, []uint32{2}, long("bc", 100), 2, api.OK)
	g.set(3, api.Page{Kind: leafKind, Cells: []api.Cell{dead(8, "n")}})
	needs(t, g, []uint32{1, 3}, "n", 0, api.ErrThere)
	needs(t, g, []uint32{1, 3}, "n\x00", 0, api.OK)
}

// P8.4: which lists of fresh numbers are refused.
func TestFresh(t *testing.T) {
	g := groveOf(map[uint32]api.Page{7: {Kind: leafKind, Cells: row(140, 140, 140)}, 5: leaf(0, "n")})
	entry := long("d", 140)
	for _, fresh := range [][]uint32{nil, {}, {8}, {8, 9, 10}, {8, 0}, {0, 8}, {0, 0}, {8, 8}, {7, 8}, {8, 7}, {7, 7}} {
		splits(t, g, []uint32{7}, entry, fresh, nil, api.ErrArg)
	}
	for _, fresh := range [][]uint32{{8, 9}, {9, 8}, {1, 1<<32 - 1}, {1<<32 - 1, 5}} {
		if got, e := Split(g.get, []uint32{7}, entry, fresh); e != api.OK || len(got) != 3 {
			t.Errorf("Split with %v: %d pages, %d", fresh, len(got), int(e))
		}
	}
	splits(t, g, []uint32{5}, "a", nil, nil, api.OK)
	splits(t, g, []uint32{5}, "a", []uint32{}, nil, api.OK)
	splits(t, g, []uint32{5}, "a", []uint32{8}, nil, api.ErrArg)
	splits(t, g, []uint32{5}, "a", []uint32{0}, nil, api.ErrArg)
}

// P8.4: a leaf below an inner page is divided: where the row is parted, LSNs, Next, what was killed; the new cell is in neither half, and takes part.
func TestLeafDivided(t *testing.T) {
	a, b, c, d := long("a", 100), long("b", 100), long("c", 100), long("d", 100)
	old := api.Page{Kind: leafKind, LSN: 300, Next: 5, Cells: []api.Cell{dead(6, a), cell(b), dead(1<<32-1, c), cell(d)}}
	above := inner(2, to("m", 5))
	for _, x := range []struct {
		entry       string
		left, right []api.Cell
		up          string
	}{
		{long("0", 100), old.Cells[:2], old.Cells[2:], c},
		{long("az", 100), old.Cells[:2], old.Cells[2:], c},
		{long("bz", 100), old.Cells[:2], old.Cells[2:], c},
		{long("cz", 100), old.Cells[:3], old.Cells[3:], long("cz", 100)},
		{long("dz", 100), old.Cells[:3], old.Cells[3:], d},
		{long("0", 146), old.Cells[:2], old.Cells[2:], c},
		{long("az", 146), old.Cells[:2], old.Cells[2:], c},
		{long("bz", 146), old.Cells[:2], old.Cells[2:], c},
		{long("cz", 146), old.Cells[:3], old.Cells[3:], long("cz", 146)},
		{long("dz", 146), old.Cells[:3], old.Cells[3:], d},
	} {
		g := groveOf(map[uint32]api.Page{1: above, 2: old, 5: leaf(0, "n")})
		needs(t, g, []uint32{1, 2}, x.entry, 1, api.OK)
		splits(t, g, []uint32{1, 2}, x.entry, []uint32{3}, []api.Image{
			{Page: 1, To: inner(2, to(x.up, 3), to("m", 5))},
			{Page: 2, To: api.Page{Kind: leafKind, LSN: 300, Next: 3, Cells: x.left}},
			{Page: 3, To: api.Page{Kind: leafKind, Next: 5, Cells: x.right}},
		}, api.OK)
	}
}

// parted asks how many cells a leaf of some lengths keeps, if an entry of n bytes comes behind all of them, and how many go.
func parted(t *testing.T, lengths []int, n, wantLeft, wantRight int) {
	t.Helper()
	g := groveOf(map[uint32]api.Page{1: inner(2, to("~", 5)), 2: {Kind: leafKind, Cells: row(lengths...)}})
	got, e := Split(g.get, []uint32{1, 2}, long("z", n), []uint32{3})
	if e != api.OK || len(got) != 3 || len(got[1].To.Cells) != wantLeft || len(got[2].To.Cells) != wantRight {
		t.Fatalf("of %v and %d: %s, %d, want %d and %d", lengths, n, shownImages(got), int(e), wantLeft, wantRight)
	}
}

// P8.4: the left half is half of the bytes or more, and as few cells as may be; the last cell stays for the right one.
func TestHalves(t *testing.T) {
	parted(t, []int{100, 100, 100, 94}, 100, 3, 1)
	parted(t, []int{140, 140, 140}, 140, 2, 1)
	parted(t, []int{140, 141, 140}, 140, 2, 1)
	parted(t, []int{140, 139, 140}, 140, 3, 0)
	parted(t, []int{140, 139, 139}, 141, 3, 0)
	parted(t, []int{140, 139, 139}, 140, 2, 1)
	parted(t, []int{20, 50, 140, 140}, 146, 4, 0)
	parted(t, []int{20, 20, 20, 130, 140}, 146, 5, 0)
	parted(t, []int{140, 140, 30, 20, 20, 10}, 146, 2, 4)
	parted(t, []int{1, 1, 140, 140, 146}, 90, 4, 1)
	for n := 1; n <= mostEntry; n++ {
		for x := 101; x <= mostEntry; x += 3 {
			g := groveOf(map[uint32]api.Page{1: inner(2, to("~", 5)), 2: {Kind: leafKind, Cells: row(x, 60, n, x)}})
			agreePath(t, g, []uint32{1, 2}, long("z", 140))
			agreePath(t, g, []uint32{1, 2}, long("az", 140))
		}
	}
}

// P8.4: a leaf that is not right may have a last cell above half of the bytes: it alone stays for the right half, the new one or another.
func TestLastStays(t *testing.T) {
	above := inner(2, to("~", 5))
	tiny := api.Page{Kind: leafKind}
	for i := range 39 {
		tiny.Cells = append(tiny.Cells, cell(string([]byte{'0' + byte(i)})))
	}
	tiny.Cells = append(tiny.Cells, cell(long("r", 180)))
	g := groveOf(map[uint32]api.Page{1: above, 2: tiny})
	agreePath(t, g, []uint32{1, 2}, "z")
	agreePath(t, g, []uint32{1, 2}, long("z", 146))
	agreePath(t, g, []uint32{1, 2}, long("0z", 146))
	agreePath(t, g, []uint32{2}, long("q", 40))
	// Two cells, and a third ahead of, between, behind them: 186 bytes of 392 or 524.
	g.set(2, api.Page{Kind: leafKind, Cells: []api.Cell{cell(long("b", 176)), cell(long("d", 176))}})
	for _, s := range []string{"a", "c", "e"} {
		needs(t, g, []uint32{1, 2}, long(s, 146), 1, api.OK)
		agreePath(t, g, []uint32{1, 2}, long(s, 146))
		agreePath(t, g, []uint32{2}, long(s, 146))
	}
}

// innerOf is an inner page of borders of some lengths, and children's numbers from 100 on.
func innerOf(left uint32, lengths ...int) api.Page {
	p := api.Page{Kind: innerKind, LSN: 900, Next: left}
	for i, c := range row(lengths...) {
		p.Cells = append(p.Cells, to(string(c.Data), uint32(100+i)))
	}
	return p
}

// P8.4: an inner page, the root, is divided: what goes up, with which child; what the fresh pages have; which numbers they take.
func TestInnerDivided(t *testing.T) {
	a, b, c, d := long("a", 146), long("b", 146), long("c", 146), long("d", 140)
	ends := func(s string) string { return s[:1] + strings.Repeat("y", len(s)-1) }
	g := groveOf(map[uint32]api.Page{
		1:   {Kind: innerKind, LSN: 900, Next: 99, Cells: []api.Cell{to(a, 100), to(b, 101), to(c, 102)}},
		102: {Kind: leafKind, LSN: 33, Next: 55, Cells: []api.Cell{cell(c), dead(4, ends(c)), cell(d)}},
	})
	entry := long("e", 146)
	needs(t, g, []uint32{1, 102}, entry, 3, api.OK)
	// The leaf's row is c, c, d, e: d comes up; a, b, c, d: two stay on the left, c goes up.
	splits(t, g, []uint32{1, 102}, entry, []uint32{9, 2000, 8}, []api.Image{
		{Page: 1, To: api.Page{Kind: innerKind, LSN: 900, Next: 2000, Cells: []api.Cell{to(c, 8)}}},
		{Page: 8, To: api.Page{Kind: innerKind, Next: 102, Cells: []api.Cell{to(d, 9)}}},
		{Page: 9, To: api.Page{Kind: leafKind, Next: 55, Cells: []api.Cell{cell(d)}}},
		{Page: 102, To: api.Page{Kind: leafKind, LSN: 33, Next: 9, Cells: []api.Cell{cell(c), dead(4, ends(c))}}},
		{Page: 2000, To: api.Page{Kind: innerKind, Next: 99, Cells: []api.Cell{to(a, 100), to(b, 101)}}},
	}, api.OK)
	// Below another page its left half stays where it is.
	g.set(5, inner(1, to("m", 77)))
	splits(t, g, []uint32{5, 1, 102}, entry, []uint32{9, 8}, []api.Image{
		{Page: 1, To: api.Page{Kind: innerKind, LSN: 900, Next: 99, Cells: []api.Cell{to(a, 100), to(b, 101)}}},
		{Page: 5, To: api.Page{Kind: innerKind, LSN: 50, Next: 1, Cells: []api.Cell{to(c, 8), to("m", 77)}}},
		{Page: 8, To: api.Page{Kind: innerKind, Next: 102, Cells: []api.Cell{to(d, 9)}}},
		{Page: 9, To: api.Page{Kind: leafKind, Next: 55, Cells: []api.Cell{cell(d)}}},
		{Page: 102, To: api.Page{Kind: leafKind, LSN: 33, Next: 9, Cells: []api.Cell{cell(c), dead(4, ends(c))}}},
	}, api.OK)
}

// P8.4: what comes up may itself be what goes up, and then the fresh leaf is the child on the left; the last two of a row stay.
func TestComesUpGoesUp(t *testing.T) {
	for _, lengths := range [][]int{{146, 146, 146}, {146, 146, 140, 8}, {8, 146, 146, 140}, {10, 10, 130, 130, 130}, {130, 130, 130, 10, 10}, {1, 1, 1, 1, 1, 1, 1, 140, 146, 10}, {40, 40, 40, 40, 40, 40, 40, 40, 40}} {
		p := innerOf(99, lengths...)
		for i := range len(lengths) + 1 {
			child := uint32(99 + i)
			if i == 0 {
				child = 99
			}
			first := string(rune('a' + i - 1))
			g := groveOf(map[uint32]api.Page{1: p, 5: inner(1, to("~", 77)), child: {Kind: leafKind, Cells: []api.Cell{cell(long(first+"y", 140)), cell(long(first+"yy", 140)), cell(long(first+"yyy", 146))}}})
			for _, entry := range []string{long(first+"x~", 146), long(first+"yxy", 146), long(first+"yyxy", 146), long(first+"z", 146)} {
				for _, root := range []uint32{1, 5} {
					path, e := Path(g.get, root, entry)
					if e != api.OK || path[len(path)-1] != child {
						t.Fatalf("Path: %v, %d: %v", path, int(e), g)
					}
					needs(t, g, path, entry, 3-int(root-1)/4, api.OK)
					agreePath(t, g, path, entry)
				}
			}
		}
	}
}

// deepFull is a way of n pages, all of them full but so many at the top, and an entry that lies at its end.
func deepFull(n, roomy int) (*grove, []uint32, string) {
	g := groveOf(map[uint32]api.Page{})
	var path []uint32
	for i := 1; i < n; i++ {
		// Each page's borders lie within the span between the first two of the page above.
		low, high := "b"+string(rune('0'+i)), "k"+string(rune('9'-i))
		p := inner(1000, to(long(low, 146), uint32(i+1)), to(long(high, 146), 1001), to(long(high+"~", 146), 1002))
		if i <= roomy {
			p.Cells = p.Cells[:2]
		}
		g.set(uint32(i), p)
		path = append(path, uint32(i))
	}
	g.set(uint32(n), leaf(0, long("c", 146), long("d", 146), long("e", 146)))
	return g, append(path, uint32(n)), long("f", 146)
}

// P8.3: ErrFull, if the root is divided with eight pages on the way; how many pages are wanted, with room at each height.
func TestFull(t *testing.T) {
	for n := 1; n <= mostHigh; n++ {
		for roomy := range n {
			g, path, entry := deepFull(n, roomy)
			want, wantErr := n-roomy, api.OK
			if roomy == 0 {
				want++
			}
			if want > mostHigh {
				want, wantErr = 0, api.ErrFull
			}
			needs(t, g, path, entry, want, wantErr)
			agreePath(t, g, path, entry)
			if roomy > 0 {
				continue
			}
			// With room in the leaf nothing else is asked.
			g.set(uint32(n), leaf(0, long("c", 146)))
			needs(t, g, path, entry, 0, api.OK)
		}
	}
}

// P8.3: ErrThere and ErrArg ahead of ErrFull, ErrFull ahead of ErrForm.
func TestFullOrder(t *testing.T) {
	g, path, entry := deepFull(mostHigh, 0)
	needs(t, g, path, long("d", 146), 0, api.ErrThere)
	needs(t, g, path[:7], entry, 0, api.ErrArg)
	g.set(8, leaf(0, long("c", 146), long("d", 180), long("e", 100)))
	needs(t, g, path, long("cz", 146), 0, api.ErrFull)
	splits(t, g, path, long("cz", 146), nil, nil, api.ErrFull)
	needs(t, g, path[1:], long("cz", 146), 0, api.ErrForm)
	splits(t, g, path[1:], long("cz", 146), nil, nil, api.ErrForm)
}

// P8.3: ErrForm, where what comes up is too long for a cell, or is there already, in a page with room, in one without, in a new root.
func TestNeedsForm(t *testing.T) {
	for n := 140; n <= mostCell; n++ {
		wantErr := api.OK
		if n+4 > mostCell {
			wantErr = api.ErrForm
		}
		low := leaf(0, long("c", 140), long("d", n), long("e", 60))
		entry := long("cz", 146)
		for _, above := range []api.Page{inner(2, to("~", 5)), innerOf(9, 140, 140, 100), {}} {
			g := groveOf(map[uint32]api.Page{1: above, 2: low, 102: low})
			path := []uint32{1, 2}
			switch {
			case len(above.Cells) == 0:
				path = []uint32{2}
			case len(above.Cells) == 3:
				path = []uint32{1, 102}
			}
			got, e := Needs(g.get, path, entry)
			if e != wantErr || (got > 0) != (e == api.OK) {
				t.Fatalf("with %d bytes, above %s: %d, %d", n, shownPage(above), got, int(e))
			}
			agreePath(t, g, path, entry)
		}
	}
	// The leaf has an entry that is not below the border behind it.
	s := long("s", 146)
	g := groveOf(map[uint32]api.Page{1: inner(2, to(s, 3)), 2: leaf(3, long("a", 146), long("b", 146), s)})
	needs(t, g, []uint32{1, 2}, long("az", 40), 0, api.ErrForm)
	needs(t, g, []uint32{1, 2}, long("c", 146), 1, api.OK)
}

// P8.4: in a tree that is not right the new cell stands ahead of one with an equal entry.
func TestAheadOfEqual(t *testing.T) {
	a, s, u := long("a", 146), long("s", 146), long("u", 146)
	below := leaf(3, long("b", 146), long("c", 146), s)
	g := groveOf(map[uint32]api.Page{1: {Kind: innerKind, LSN: 8, Next: 10, Cells: []api.Cell{to(a, 11), to(s, 12), to(u, 13)}}, 11: below})
	entry := long("bz", 40)
	// The leaf's row is b, b, c, s: s comes up. The root's is a, s, s, u: the old s goes up.
	splits(t, g, []uint32{1, 11}, entry, []uint32{20, 21, 22}, []api.Image{
		{Page: 1, To: api.Page{Kind: innerKind, LSN: 8, Next: 21, Cells: []api.Cell{to(s, 22)}}},
		{Page: 11, To: api.Page{Kind: leafKind, LSN: 40, Next: 20, Cells: below.Cells[:2]}},
		{Page: 20, To: api.Page{Kind: leafKind, Next: 3, Cells: below.Cells[2:]}},
		{Page: 21, To: api.Page{Kind: innerKind, Next: 10, Cells: []api.Cell{to(a, 11), to(s, 20)}}},
		{Page: 22, To: api.Page{Kind: innerKind, Next: 12, Cells: []api.Cell{to(u, 13)}}},
	}, api.OK)
}

// P8.4: what comes up is put in its own place, not where the way went down.
func TestItsOwnPlace(t *testing.T) {
	e := long("e", 146)
	g := groveOf(map[uint32]api.Page{1: inner(2, to("d", 3), to("f", 4)), 2: leaf(3, long("a", 146), long("b", 146), e)})
	splits(t, g, []uint32{1, 2}, long("az", 60), []uint32{9}, []api.Image{
		{Page: 1, To: inner(2, to("d", 3), to(e, 9), to("f", 4))},
		{Page: 2, To: leaf(9, long("a", 146), long("b", 146))},
		{Page: 9, To: api.Page{Kind: leafKind, Next: 3, Cells: []api.Cell{cell(e)}}},
	}, api.OK)
}

// P8.7: a right tree with what Split answers is right, has the same cells, the same root, n pages more; the entry has room on its new path.
func TestSplitStaysRight(t *testing.T) {
	done := map[int]int{}
	for seed := range 1500 {
		m, root := made(20000 + seed)
		for range 5 {
			text := m.someText()
			path, e := Path(m.g.get, root, text)
			if e != api.OK {
				continue
			}
			if n, e := Needs(m.g.get, path, text); e == api.OK {
				done[n]++
				staysRight(t, m.g, root, path, text, n)
			}
		}
	}
	for n := 1; n < 6; n++ {
		if done[n] < 20 {
			t.Errorf("%d splits alone of %d pages: not a test: %v", done[n], n, done)
		}
	}
}

// staysRight asks all that P8.7 says of a Split, and answers the tree with its pages.
func staysRight(t *testing.T, g *grove, root uint32, path []uint32, text string, n int) *grove {
	t.Helper()
	var fresh []uint32
	for number := uint32(3); len(fresh) < n; number += 5 {
		if _, there := g.pages[number]; !there {
			fresh = append(fresh, number)
		}
	}
	images, e := Split(g.get, path, text, fresh)
	if e != api.OK {
		t.Fatalf("Split(%v, %q, %v): %d: %v", path, text, fresh, int(e), g)
	}
	after := g.with(images)
	cells, numbers, _ := wordsOver(g, root, true)
	newCells, newNumbers, e := wordsOver(after, root, true)
	if e != api.OK || Check(after.get, root) != api.OK {
		t.Fatalf("Split(%v, %q, %v): %d; the tree was %v; it is %v", path, text, fresh, int(e), g, after)
	}
	if got, e := All(after.get, root); e != api.OK || !sameCells(got, cells) || !sameCells(newCells, cells) {
		t.Fatalf("Split(%v, %q, %v): other cells; the tree was %v; it is %v", path, text, fresh, g, after)
	}
	want := slices.Sorted(slices.Values(append(numbers, fresh...)))
	if got, e := Pages(after.get, root); e != api.OK || !slices.Equal(got, want) || !slices.Equal(newNumbers, want) {
		t.Fatalf("Split(%v, %q, %v): the pages %v, want %v", path, text, fresh, got, want)
	}
	newPath, e := Path(after.get, root, text)
	if e != api.OK {
		t.Fatalf("Path behind Split: %d: %v", int(e), after)
	}
	needs(t, after, newPath, text, 0, api.OK)
	return after
}

// P8.7: trees of up to eight pages on a way, all of which are full below a root that has room, or not: how many pages are wanted there.
func TestSplitHigh(t *testing.T) {
	for seed := range 24 {
		high := 5 + seed%4
		m := &maker{pick: picker(70 + seed), g: groveOf(map[uint32]api.Page{}), style: 3 - seed/8, many: 1, roomy: seed / 4 % 2}
		root := m.tree(high, true)
		checks(t, m.g, root, api.OK)
		most, full := 0, false
		for _, s := range m.texts {
			text := long(s[:5]+"~", 146)
			path, e := Path(m.g.get, root, text)
			if e != api.OK || len(path) != high {
				t.Fatalf("Path: %v, %d", path, int(e))
			}
			n, e := Needs(m.g.get, path, text)
			if want, wantErr := wordsNeeds(m.g, path, text); n != want || e != wantErr {
				t.Fatalf("Needs: %d, %d, want %d, %d", n, int(e), want, int(wantErr))
			}
			full = full || e == api.ErrFull
			if n > most {
				most = n
				staysRight(t, m.g, root, path, text, n)
			}
		}
		want := high - m.roomy
		if m.roomy == 0 {
			want++
		}
		// Of entries of 146 bytes alone three are full in a page for whatever comes up.
		if m.style == 3 && (full != (want > mostHigh) || !full && most != want) {
			t.Errorf("with %d pages on a way, %d of them with room: %d pages at most, ErrFull: %v", high, m.roomy, most, full)
		}
	}
}
