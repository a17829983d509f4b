package node

import (
	"slices"
	"testing"

	"cadastre/api"
)

// agree holds every call of a tree against the chapter's words: what is answered, and which pages are asked for.
func agree(t *testing.T, g *grove, root uint32, text string) {
	t.Helper()
	g.asks()
	path, e := wordsPath(g, root, text)
	asked := g.asks()
	paths(t, g, root, text, path, e)
	asksFor(t, "Path", g, asked)
	number, place, e := wordsSeek(g, root, text)
	asked = g.asks()
	seeks(t, g, root, text, number, place, e)
	asksFor(t, "Seek", g, asked)
	agreePath(t, g, path, text)
}

// agreePath holds Needs and Split against the words.
func agreePath(t *testing.T, g *grove, path []uint32, text string) {
	t.Helper()
	g.asks()
	n, e := wordsNeeds(g, path, text)
	asked := g.asks()
	needs(t, g, path, text, n, e)
	asksFor(t, "Needs", g, asked)
	for _, fresh := range freshLists(g, path, n) {
		images, e := wordsSplit(g, path, text, fresh)
		asked = g.asks()
		splits(t, g, path, text, fresh, images, e)
		asksFor(t, "Split", g, asked)
	}
}

// freshLists are lists of so many fresh pages, or nearly: right ones, and wrong ones of each sort.
func freshLists(g *grove, path []uint32, n int) [][]uint32 {
	var rising []uint32
	for number := uint32(2); len(rising) < n+1; number += 3 {
		if _, there := g.pages[number]; !there {
			rising = append(rising, number)
		}
	}
	more := rising
	rising = rising[:n]
	falling := slices.Clone(rising)
	slices.Reverse(falling)
	big := []uint32{1<<32 - 1, 1 << 31, 1<<32 - 7, 1 << 30, 1<<32 - 3, 1 << 29, 1<<32 - 5, 1 << 28, 1 << 27}
	lists := [][]uint32{rising, falling, big[:min(n, len(big))], more, rising[:max(n-1, 0)], nil}
	for i := range n {
		for _, number := range append([]uint32{0, rising[0], rising[n-1]}, path...) {
			list := slices.Clone(rising)
			list[i] = number
			lists = append(lists, list)
		}
	}
	return lists
}

// agreeWhole holds Check, All and Pages against the words.
func agreeWhole(t *testing.T, g *grove, root uint32) api.Errno {
	t.Helper()
	g.asks()
	_, _, e := wordsOver(g, root, true)
	asked := g.asks()
	checks(t, g, root, e)
	asksFor(t, "Check", g, asked)
	cells, numbers, loose := wordsOver(g, root, false)
	asked = g.asks()
	got, gotErr := All(g.get, root)
	if gotErr != loose || !sameCells(got, cells) {
		t.Fatalf("All(%d): %s, %d, want %s, %d: %v", root, shownPage(api.Page{Cells: got}), int(gotErr), shownPage(api.Page{Cells: cells}), int(loose), g)
	}
	asksFor(t, "All", g, asked)
	pages(t, g, root, numbers, loose)
	asksFor(t, "Pages", g, asked)
	return e
}

// P8.1 to P8.5: every call, over right trees of all shapes, is what the words say.
func TestRightTrees(t *testing.T) {
	wants := map[int]int{}
	for seed := range 500 {
		m, root := made(seed)
		if e := agreeWhole(t, m.g, root); e != api.OK {
			t.Fatalf("a tree that is made to be right is not: %d: %v", int(e), m.g)
		}
		for range 12 {
			text := m.someText()
			agree(t, m.g, root, text)
			path, _ := wordsPath(m.g, root, text)
			if n, e := wordsNeeds(m.g, path, text); e == api.OK {
				wants[n]++
			}
		}
	}
	for n := range 6 {
		if wants[n] < 5 {
			t.Errorf("%d entries alone want %d pages: not a test: %v", wants[n], n, wants)
		}
	}
}

// P8.1 to P8.5: every call, over trees that are spoilt here and there, is what the words say.
func TestSpoiltTrees(t *testing.T) {
	met := map[api.Errno]int{}
	for seed := range 2500 {
		m, root := made(1000 + seed)
		for range 1 + m.pick(3) {
			m.spoil()
		}
		met[agreeWhole(t, m.g, root)]++
		for range 6 {
			agree(t, m.g, root, m.someText())
		}
		agree(t, m.g, m.someNumber(), m.someText())
		agreeWhole(t, m.g, m.someNumber())
	}
	for _, e := range []api.Errno{api.OK, api.ErrForm, 80, 81} {
		if met[e] < 50 {
			t.Errorf("Check told %d %d times alone: not a test: %v", int(e), met[e], met)
		}
	}
}

// P8.3: a path that is not what Path tells: too short, too long, with another page, another way.
func TestWrongPaths(t *testing.T) {
	for seed := range 300 {
		m, root := made(9000 + seed)
		text := m.someText()
		path, _ := wordsPath(m.g, root, text)
		other, _ := wordsPath(m.g, root, m.someText())
		lists := [][]uint32{nil, {}, {0}, other, append(slices.Clone(path), 1), append(slices.Clone(path), path...), append([]uint32{0}, path...), append([]uint32{root}, path...)}
		for i := range path {
			lists = append(lists, path[:i], path[i:], slices.Delete(slices.Clone(path), i, i+1))
			for _, number := range []uint32{0, m.someNumber(), root, path[len(path)-1], path[i] + 1} {
				list := slices.Clone(path)
				list[i] = number
				lists = append(lists, list)
			}
		}
		for _, list := range lists {
			agreePath(t, m.g, list, text)
		}
	}
}
