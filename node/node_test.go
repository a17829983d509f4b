package node

import (
	"bytes"
	"math"
	"slices"
	"strconv"
	"strings"
	"testing"

	"cadastre/api"
)

// The numbers that the chapter names, written out, so that nothing of the program is in what the tests want.
const (
	heapKind, leafKind, innerKind = 1, 2, 3
	pageBytes                     = 512
	mostCells                     = 60
	mostCell                      = 180
	mostEntry                     = 146
	mostHigh                      = 8
	mostLeaves                    = 8192
	noPage                        = api.Errno(77) // what the tests' get answers of a page that there is not
)

// cell is one in use, killed by nobody.
func cell(data string) api.Cell { return api.Cell{Used: true, Data: []byte(data)} }

// dead is a cell that a transaction killed.
func dead(by uint32, data string) api.Cell {
	return api.Cell{Used: true, Killer: by, Data: []byte(data)}
}

// to is an inner page's cell: an entry, and a child's number.
func to(entry string, child uint32) api.Cell {
	return cell(entry + string([]byte{byte(child >> 24), byte(child >> 16), byte(child >> 8), byte(child)}))
}

// leaf is a leaf of entries.
func leaf(next uint32, entries ...string) api.Page {
	p := api.Page{Kind: leafKind, LSN: 40, Next: next}
	for _, s := range entries {
		p.Cells = append(p.Cells, cell(s))
	}
	return p
}

// inner is an inner page.
func inner(left uint32, cells ...api.Cell) api.Page {
	return api.Page{Kind: innerKind, LSN: 50, Next: left, Cells: cells}
}

// long is a text of n bytes, of which all but the first are x.
func long(first string, n int) string { return first + strings.Repeat("x", n-len(first)) }

// grove is pages by their numbers, and which errors are told of others; it keeps what it was asked for.
type grove struct {
	pages map[uint32]api.Page
	errs  map[uint32]api.Errno
	asked []uint32
}

func (g *grove) get(number uint32) (api.Page, api.Errno) {
	g.asked = append(g.asked, number)
	if e, there := g.errs[number]; there {
		return leaf(3, "not to be looked at"), e
	}
	p, there := g.pages[number]
	if !there {
		return api.Page{}, noPage
	}
	return p, api.OK
}

// asks tells what was asked for since the last time.
func (g *grove) asks() []uint32 {
	asked := g.asked
	g.asked = nil
	return asked
}

func groveOf(pages map[uint32]api.Page) *grove {
	return &grove{pages: pages, errs: map[uint32]api.Errno{}}
}

// set makes a page another one.
func (g *grove) set(number uint32, p api.Page) { g.pages[number] = p }

// copy is a grove that is alike, and shares nothing.
func (g *grove) copy() *grove {
	other := groveOf(map[uint32]api.Page{})
	for number, p := range g.pages {
		other.pages[number] = twin(p)
	}
	for number, e := range g.errs {
		other.errs[number] = e
	}
	return other
}

// with is a copy in which some pages are others.
func (g *grove) with(images []api.Image) *grove {
	other := g.copy()
	for _, image := range images {
		other.pages[image.Page] = twin(image.To)
	}
	return other
}

// twin is a page that is alike, and shares nothing.
func twin(p api.Page) api.Page {
	p.Cells = slices.Clone(p.Cells)
	for i := range p.Cells {
		p.Cells[i].Data = bytes.Clone(p.Cells[i].Data)
	}
	return p
}

// The tree of the chapter's example.
func oneLeaf() *grove {
	return groveOf(map[uint32]api.Page{7: {Kind: leafKind, Cells: []api.Cell{cell("b"), cell("d")}}})
}

// fourLeaves is a tree of three pages from the root down.
func fourLeaves() *grove {
	return groveOf(map[uint32]api.Page{
		1: inner(2, to("m", 3)),
		2: inner(4, to("f", 5)),
		3: inner(6, to("m", 7), to("t", 8)),
		4: leaf(5, "a", "c"),
		5: leaf(6, "f", "g"),
		6: leaf(7),
		7: leaf(8, "m"),
		8: leaf(0, "t", "z"),
	})
}

func shownPage(p api.Page) string {
	text := "kind " + strconv.Itoa(p.Kind) + " lsn " + strconv.Itoa(int(p.LSN)) + " next " + strconv.Itoa(int(p.Next)) + ":"
	for _, c := range p.Cells {
		text += " " + shownCell(c)
	}
	return text
}

func shownCell(c api.Cell) string {
	data := strconv.Quote(string(c.Data))
	if len(data) > 30 {
		data = data[:20] + ".." + data[len(data)-8:] + strconv.Itoa(len(c.Data))
	}
	if !c.Used {
		data += "-"
	}
	if c.Killer != 0 {
		data += "/" + strconv.Itoa(int(c.Killer))
	}
	return data
}

func (g *grove) String() string {
	var numbers []int
	for number := range g.pages {
		numbers = append(numbers, int(number))
	}
	slices.Sort(numbers)
	text := ""
	for _, number := range numbers {
		text += "\n" + strconv.Itoa(number) + ": " + shownPage(g.pages[uint32(number)])
	}
	if len(text) > 6000 {
		text = text[:6000] + ".."
	}
	return text
}

// sameImages tells whether two lists of pages are alike, to the last byte.
func sameImages(a, b []api.Image) bool {
	return slices.EqualFunc(a, b, func(x, y api.Image) bool { return x.Page == y.Page && samePage(x.To, y.To) })
}

func samePage(p, q api.Page) bool {
	return p.Kind == q.Kind && p.LSN == q.LSN && p.Next == q.Next && sameCells(p.Cells, q.Cells)
}

func sameCells(a, b []api.Cell) bool {
	return slices.EqualFunc(a, b, func(x, y api.Cell) bool {
		return x.Used == y.Used && x.Killer == y.Killer && bytes.Equal(x.Data, y.Data)
	})
}

func shownImages(images []api.Image) string {
	text := ""
	for _, image := range images {
		text += "\n" + strconv.Itoa(int(image.Page)) + ": " + shownPage(image.To)
	}
	return text
}

// asksFor asks what was asked for, page by page.
func asksFor(t *testing.T, what string, g *grove, want []uint32) {
	t.Helper()
	if got := g.asks(); !slices.Equal(got, want) {
		t.Fatalf("%s asked for %v, not for %v: %v", what, got, want, g)
	}
}

// paths asks what Path answers.
func paths(t *testing.T, g *grove, root uint32, entry string, want []uint32, wantErr api.Errno) {
	t.Helper()
	got, e := Path(g.get, root, entry)
	if e != wantErr || !slices.Equal(got, want) {
		t.Fatalf("Path(%d, %.20q): %v, %d, want %v, %d: %v", root, entry, got, int(e), want, int(wantErr), g)
	}
}

// seeks asks what Seek answers.
func seeks(t *testing.T, g *grove, root uint32, from string, want uint32, wantPlace int, wantErr api.Errno) {
	t.Helper()
	got, place, e := Seek(g.get, root, from)
	if e != wantErr || got != want || place != wantPlace {
		t.Fatalf("Seek(%d, %.20q): %d, %d, %d, want %d, %d, %d: %v", root, from, got, place, int(e), want, wantPlace, int(wantErr), g)
	}
}

// needs asks what Needs answers.
func needs(t *testing.T, g *grove, path []uint32, entry string, want int, wantErr api.Errno) {
	t.Helper()
	got, e := Needs(g.get, path, entry)
	if e != wantErr || got != want {
		t.Fatalf("Needs(%v, %.20q): %d, %d, want %d, %d: %v", path, entry, got, int(e), want, int(wantErr), g)
	}
}

// splits asks what Split answers.
func splits(t *testing.T, g *grove, path []uint32, entry string, fresh []uint32, want []api.Image, wantErr api.Errno) {
	t.Helper()
	got, e := Split(g.get, path, entry, fresh)
	if e != wantErr || !sameImages(got, want) {
		t.Fatalf("Split(%v, %.20q, %v): %s, %d, want %s, %d: %v", path, entry, fresh, shownImages(got), int(e), shownImages(want), int(wantErr), g)
	}
}

// checks asks what Check answers.
func checks(t *testing.T, g *grove, root uint32, want api.Errno) {
	t.Helper()
	if got := Check(g.get, root); got != want {
		t.Fatalf("Check(%d): %d, want %d: %v", root, int(got), int(want), g)
	}
}

// alls asks what All answers: the cells of these entries, killed by nobody.
func alls(t *testing.T, g *grove, root uint32, want []string, wantErr api.Errno) {
	t.Helper()
	got, e := All(g.get, root)
	if e != wantErr || !sameCells(got, leaf(0, want...).Cells) {
		t.Fatalf("All(%d): %s, %d, want %q, %d: %v", root, shownPage(api.Page{Cells: got}), int(e), want, int(wantErr), g)
	}
}

// pages asks what Pages answers.
func pages(t *testing.T, g *grove, root uint32, want []uint32, wantErr api.Errno) {
	t.Helper()
	got, e := Pages(g.get, root)
	if e != wantErr || !slices.Equal(got, want) {
		t.Fatalf("Pages(%d): %v, %d, want %v, %d: %v", root, got, int(e), want, int(wantErr), g)
	}
}

// The chapter's examples, one by one.
func TestExamples(t *testing.T) {
	g := oneLeaf()
	paths(t, g, 7, "c", []uint32{7}, api.OK)
	seeks(t, g, 7, "c", 7, 1, api.OK)
	seeks(t, g, 7, "e", 0, 0, api.ErrNone)
	needs(t, g, []uint32{7}, "c", 0, api.OK)
	needs(t, g, []uint32{7}, "b", 0, api.ErrThere)
	needs(t, g, nil, "c", 0, api.ErrArg)
	needs(t, g, []uint32{}, "c", 0, api.ErrArg)
	needs(t, g, []uint32{8}, "c", 0, noPage)
	alls(t, g, 7, []string{"b", "d"}, api.OK)
	pages(t, g, 7, []uint32{7}, api.OK)
	checks(t, g, 7, api.OK)
	checks(t, g, 0, api.ErrArg)
	a, b, c, d := long("a", 140), long("b", 140), long("c", 140), long("d", 140)
	g = groveOf(map[uint32]api.Page{7: {Kind: leafKind, Cells: []api.Cell{cell(a), cell(b), cell(c)}}})
	needs(t, g, []uint32{7}, d, 2, api.OK)
	splits(t, g, []uint32{7}, d, []uint32{8, 9}, []api.Image{
		{Page: 7, To: api.Page{Kind: innerKind, Next: 8, Cells: []api.Cell{to(c, 9)}}},
		{Page: 8, To: api.Page{Kind: leafKind, Next: 9, Cells: []api.Cell{cell(a), cell(b)}}},
		{Page: 9, To: api.Page{Kind: leafKind, Cells: []api.Cell{cell(c)}}},
	}, api.OK)
}

// ofAll is each call, with the root or the path's first page, and right arguments beside it; what it answers beside an error has to be nothing.
func ofAll(t *testing.T, get Get, root uint32, want api.Errno) {
	t.Helper()
	for name, call := range map[string]func() (bool, api.Errno){
		"Path":  func() (bool, api.Errno) { x, e := Path(get, root, "c"); return len(x) == 0, e },
		"Seek":  func() (bool, api.Errno) { x, y, e := Seek(get, root, "c"); return x == 0 && y == 0, e },
		"Needs": func() (bool, api.Errno) { x, e := Needs(get, []uint32{root}, "c"); return x == 0, e },
		"Split": func() (bool, api.Errno) { x, e := Split(get, []uint32{root}, "c", nil); return len(x) == 0, e },
		"Check": func() (bool, api.Errno) { return true, Check(get, root) },
		"All":   func() (bool, api.Errno) { x, e := All(get, root); return len(x) == 0, e },
		"Pages": func() (bool, api.Errno) { x, e := Pages(get, root); return len(x) == 0, e },
	} {
		nothing, e := call()
		if e != want || e != api.OK && !nothing {
			t.Errorf("%s of %d: %d, with nothing beside it: %v; want %d", name, root, int(e), nothing, int(want))
		}
	}
}

// P8.1: get's error, whichever it is, and whatever page it answers beside it; a nil get; one that panics is no better.
func TestGetsErrors(t *testing.T) {
	for _, e := range []api.Errno{1, 2, 5, 6, 7, 8, 77, 271, 1000, -1, math.MaxInt, math.MinInt} {
		ofAll(t, func(uint32) (api.Page, api.Errno) { return leaf(0, "a"), e }, 7, e)
		ofAll(t, func(uint32) (api.Page, api.Errno) { return api.Page{}, e }, 7, e)
	}
	ofAll(t, nil, 7, api.ErrArg)
	ofAll(t, nil, 0, api.ErrArg)
	ofAll(t, func(uint32) (api.Page, api.Errno) { panic("no page") }, 7, api.ErrArg)
	ofAll(t, func(uint32) (api.Page, api.Errno) { panic(api.ErrDark) }, 7, api.ErrArg)
	ofAll(t, func(uint32) (api.Page, api.Errno) { panic(nil) }, 7, api.ErrArg)
	ofAll(t, oneLeaf().get, 8, noPage)
}

// P8.1: root 0, and page 0 as a child, of which get is not asked.
func TestPageNought(t *testing.T) {
	g := oneLeaf()
	ofAll(t, g.get, 0, api.ErrArg)
	asksFor(t, "calls of root 0", g, nil)
	for _, p := range []api.Page{inner(0, to("a", 0)), inner(0, to("z", 0)), inner(9, to("a", 0)), inner(0, to("z", 9))} {
		g := groveOf(map[uint32]api.Page{0: leaf(0), 7: p, 9: leaf(0)})
		for _, call := range []func() api.Errno{
			func() api.Errno { _, e := Path(g.get, 7, "c"); return e },
			func() api.Errno { _, _, e := Seek(g.get, 7, "c"); return e },
			func() api.Errno { _, e := Needs(g.get, []uint32{7, 0}, "c"); return e },
			func() api.Errno { _, e := Split(g.get, []uint32{7, 0}, "c", nil); return e },
			func() api.Errno { return Check(g.get, 7) },
			func() api.Errno { _, e := All(g.get, 7); return e },
			func() api.Errno { _, e := Pages(g.get, 7); return e },
		} {
			if e := call(); e != api.ErrForm {
				t.Errorf("a child 0: %d: %v", int(e), g)
			}
			if slices.Contains(g.asks(), 0) {
				t.Errorf("get was asked of page 0: %v", g)
			}
		}
	}
}

// noTreesPages are pages that may not be, or are none of a tree.
func noTreesPages() []api.Page {
	return []api.Page{
		{}, {Kind: heapKind}, {Kind: heapKind, Cells: []api.Cell{cell("abcdefg")}}, {Kind: innerKind}, {Kind: innerKind, Next: 4, LSN: 9}, {Kind: 4}, {Kind: -1, Cells: []api.Cell{to("a", 3)}}, {Kind: 1<<32 + 2},
		leaf(0, "b", "a"), leaf(0, "a", "a"), leaf(0, ""), leaf(0, long("a", 181)), leaf(0, long("a", 180), long("b", 180), long("c", 180)),
		{Kind: leafKind, Cells: []api.Cell{{}}}, {Kind: leafKind, Cells: []api.Cell{{Used: false, Data: []byte("a")}}}, {Kind: leafKind, Cells: slices.Repeat([]api.Cell{cell("a")}, 61)},
		inner(4, cell("abcd")), inner(4, to("", 5)), inner(4, dead(1, "a\x00\x00\x00\x05")), inner(4, to("b", 5), to("a", 6)), inner(4, to("a", 5), to("a", 6)), inner(4, to(long("a", 177), 5)), inner(4, api.Cell{}),
	}
}

// P8.1: ErrForm of a page that may not be, a heap, an inner page without a cell: as the root, as a child, as a leaf to the right.
func TestNoTreesPages(t *testing.T) {
	for _, p := range noTreesPages() {
		ofAll(t, func(uint32) (api.Page, api.Errno) { return twin(p), api.OK }, 7, api.ErrForm)
		for number := uint32(2); number <= 8; number++ {
			g := fourLeaves()
			g.set(number, p)
			checks(t, g, 1, api.ErrForm)
			alls(t, g, 1, nil, api.ErrForm)
			pages(t, g, 1, nil, api.ErrForm)
		}
		g := fourLeaves()
		g.set(2, p)
		paths(t, g, 1, "c", nil, api.ErrForm)
		seeks(t, g, 1, "c", 0, 0, api.ErrForm)
		needs(t, g, []uint32{1, 2, 4}, "c0", 0, api.ErrForm)
		splits(t, g, []uint32{1, 2, 4}, "c0", nil, nil, api.ErrForm)
		paths(t, g, 1, "m", []uint32{1, 3, 7}, api.OK)
		g = fourLeaves()
		g.set(6, p)
		paths(t, g, 1, "h", []uint32{1, 2, 5}, api.OK)
		seeks(t, g, 1, "g", 5, 1, api.OK)
		seeks(t, g, 1, "h", 0, 0, api.ErrForm)
	}
}

// notEntries are texts that are no entries.
func notEntries() []string {
	return []string{"", long("a", 147), long("a", 148), long("a", 180), long("a", 402), long("a", 1<<16)}
}

// P8.2: Path by an entry that is in the tree or not, at the borders of what lies in each child.
func TestPath(t *testing.T) {
	g := fourLeaves()
	for _, c := range []struct {
		entry string
		want  []uint32
	}{
		{"a", []uint32{1, 2, 4}}, {"\x00", []uint32{1, 2, 4}}, {"c", []uint32{1, 2, 4}}, {"e\xff\xff", []uint32{1, 2, 4}},
		{"f", []uint32{1, 2, 5}}, {"f\x00", []uint32{1, 2, 5}}, {"l\xff", []uint32{1, 2, 5}},
		{"m", []uint32{1, 3, 7}}, {"m\x00", []uint32{1, 3, 7}}, {"s", []uint32{1, 3, 7}},
		{"t", []uint32{1, 3, 8}}, {"t\x00\x00\x00\x08", []uint32{1, 3, 8}}, {"\xff", []uint32{1, 3, 8}}, {long("\xff", 146), []uint32{1, 3, 8}}, {long("b", 146), []uint32{1, 2, 4}},
	} {
		paths(t, g, 1, c.entry, c.want, api.OK)
		asksFor(t, "Path", g, c.want)
	}
	paths(t, g, 3, "a", []uint32{3, 6}, api.OK)
	paths(t, g, 8, "a", []uint32{8}, api.OK)
	g.asks()
	for _, s := range notEntries() {
		paths(t, g, 1, s, nil, api.ErrArg)
		paths(t, g, 0, s, nil, api.ErrArg)
		paths(t, g, 99, s, nil, api.ErrArg)
	}
	paths(t, g, 0, "a", nil, api.ErrArg)
	asksFor(t, "Path of wrong arguments", g, nil)
	g.errs[5] = 88
	paths(t, g, 1, "f", nil, 88)
	paths(t, g, 1, "e", []uint32{1, 2, 4}, api.OK)
	g.errs[2] = 89
	paths(t, g, 1, "f", nil, 89)
	g.errs[1] = api.ErrDark
	paths(t, g, 1, "f", nil, api.ErrDark)
}

// P8.2: a child's number has its highest byte first, and all four bytes count.
func TestChildNumbers(t *testing.T) {
	for _, child := range []uint32{1, 0x100, 0x10000, 0x1000000, 0x01020304, 0xFFFFFFFF, 0x80000000} {
		g := groveOf(map[uint32]api.Page{7: inner(5, to("m", child)), child: leaf(0, "n"), 5: leaf(child)})
		paths(t, g, 7, "m", []uint32{7, child}, api.OK)
		seeks(t, g, 7, "a", child, 0, api.OK)
		pages(t, g, 7, slices.Sorted(slices.Values([]uint32{5, 7, child})), api.OK)
		g = groveOf(map[uint32]api.Page{7: inner(child, to("m", 5)), child: leaf(5, "a"), 5: leaf(0)})
		paths(t, g, 7, "a", []uint32{7, child}, api.OK)
		checks(t, g, 7, api.OK)
	}
}

// high is a chain of inner pages, the first of them 1, with a leaf below the last one: n pages in all on the way of "k".
func high(n int) *grove {
	g := groveOf(map[uint32]api.Page{})
	for i := 1; i < n; i++ {
		g.set(uint32(i), inner(1000, to("k", uint32(i+1)), to("l", 1000)))
	}
	g.set(uint32(n), leaf(0, "k"))
	return g
}

// P8.2: eight pages from the root down, and not one more; the ninth is not asked for.
func TestHigh(t *testing.T) {
	for n := 1; n < 12; n++ {
		g := high(n)
		var down []uint32
		for i := range min(n, mostHigh) {
			down = append(down, uint32(i+1))
		}
		path, number, wantErr := down, uint32(n), api.OK
		if n > mostHigh {
			path, number, wantErr = nil, 0, api.ErrForm
		}
		paths(t, g, 1, "k", path, wantErr)
		asksFor(t, "Path", g, down)
		seeks(t, g, 1, "k", number, 0, wantErr)
		asksFor(t, "Seek", g, down)
		needs(t, g, down, "k0", 0, wantErr)
		asksFor(t, "Needs", g, down)
		splits(t, g, down, "k0", nil, nil, wantErr)
		asksFor(t, "Split", g, down)
		g.errs[9] = 88
		paths(t, g, 1, "k", path, wantErr)
	}
	g := groveOf(map[uint32]api.Page{1: inner(1, to("k", 1))})
	for _, s := range []string{"a", "k", "z"} {
		paths(t, g, 1, s, nil, api.ErrForm)
		seeks(t, g, 1, s, 0, 0, api.ErrForm)
		needs(t, g, []uint32{1, 1, 1, 1, 1, 1, 1, 1}, s, 0, api.ErrForm)
	}
	checks(t, g, 1, api.ErrForm)
}

// P8.2: Seek within the leaf in which from would lie, and along the leaves, the empty ones too.
func TestSeek(t *testing.T) {
	g := fourLeaves()
	for _, c := range []struct {
		from  string
		page  uint32
		place int
		asks  []uint32
	}{
		{"", 4, 0, []uint32{1, 2, 4}}, {"a", 4, 0, []uint32{1, 2, 4}}, {"a\x00", 4, 1, []uint32{1, 2, 4}}, {"c", 4, 1, []uint32{1, 2, 4}},
		{"c\x00", 5, 0, []uint32{1, 2, 4, 5}}, {"f", 5, 0, []uint32{1, 2, 5}}, {"fz", 5, 1, []uint32{1, 2, 5}},
		{"h", 7, 0, []uint32{1, 2, 5, 6, 7}}, {"m", 7, 0, []uint32{1, 3, 7}}, {"n", 8, 0, []uint32{1, 3, 7, 8}}, {"z", 8, 1, []uint32{1, 3, 8}},
		{long("n", 147), 8, 0, []uint32{1, 3, 7, 8}}, {long("b", 1<<16), 4, 1, []uint32{1, 2, 4}},
	} {
		seeks(t, g, 1, c.from, c.page, c.place, api.OK)
		asksFor(t, "Seek", g, c.asks)
	}
	for _, from := range []string{"z\x00", "\xff", long("zz", 200), long("z", 146)} {
		seeks(t, g, 1, from, 0, 0, api.ErrNone)
		asksFor(t, "Seek", g, []uint32{1, 3, 8})
	}
	seeks(t, g, 0, "", 0, 0, api.ErrArg)
	seeks(t, g, 0, long("a", 147), 0, 0, api.ErrArg)
	asksFor(t, "Seek of root 0", g, nil)
	seeks(t, groveOf(map[uint32]api.Page{7: leaf(0)}), 7, "", 0, 0, api.ErrNone)
}

// P8.2: a cell that was killed is a cell; so is one that is no entry; and the leaves' order is asked of nobody.
func TestSeekAnyCell(t *testing.T) {
	g := groveOf(map[uint32]api.Page{7: {Kind: leafKind, Next: 8, Cells: []api.Cell{cell("a"), dead(5, "b"), cell(long("c", 180))}}, 8: leaf(9, "a"), 9: leaf(0, "zz", "zzz")})
	seeks(t, g, 7, "b", 7, 1, api.OK)
	seeks(t, g, 7, "c", 7, 2, api.OK)
	seeks(t, g, 7, "d", 9, 0, api.OK)
	seeks(t, g, 8, "zzy", 9, 1, api.OK)
}

// P8.2: to the right: get's error, a page that is no leaf, in the order in which they are come to.
func TestSeekWrong(t *testing.T) {
	g := fourLeaves()
	g.errs[7] = 88
	seeks(t, g, 1, "h", 0, 0, 88)
	seeks(t, g, 1, "g", 5, 1, api.OK)
	g.asks()
	g.set(6, inner(4, to("a", 5)))
	seeks(t, g, 1, "h", 0, 0, api.ErrForm)
	asksFor(t, "Seek", g, []uint32{1, 2, 5, 6})
	g.set(5, leaf(1, "f"))
	seeks(t, g, 1, "f", 5, 0, api.OK)
	seeks(t, g, 1, "g", 0, 0, api.ErrForm)
	g.set(5, leaf(99, "f"))
	seeks(t, g, 1, "g", 0, 0, noPage)
}

// P8.2: leaves that lead round in a ring, and a row of them: 8192 are gone through, and not one more; the next is not asked for.
func TestSeekFar(t *testing.T) {
	for _, ring := range []map[uint32]api.Page{{7: leaf(7, "a")}, {7: leaf(8), 8: leaf(7, "b")}, {7: leaf(8), 8: leaf(9, "a"), 9: leaf(8, "b")}} {
		g := groveOf(ring)
		seeks(t, g, 7, "c", 0, 0, api.ErrForm)
		if n := len(g.asks()); n != mostLeaves {
			t.Errorf("in a ring get was asked %d times", n)
		}
	}
	for _, deep := range []bool{false, true} {
		for _, c := range []struct {
			last    uint32 // the leaf with an entry
			nextOf  uint32
			want    uint32
			wantErr api.Errno
		}{{mostLeaves, 0, mostLeaves, api.OK}, {mostLeaves - 1, 5, mostLeaves - 1, api.OK}, {mostLeaves + 1, 0, 0, api.ErrForm}, {mostLeaves + 2, 0, 0, api.ErrForm}, {1, 0, 1, api.OK}} {
			g := groveOf(map[uint32]api.Page{1 << 20: inner(1, to("x", 1<<21))})
			for i := uint32(1); i < c.last; i++ {
				g.set(i, leaf(i+1, "b"))
			}
			g.set(c.last, leaf(c.nextOf, "b", "d"))
			root, place := uint32(1), 1
			if deep {
				root = 1 << 20
			}
			if c.wantErr != api.OK {
				place = 0
			}
			seeks(t, g, root, "c", c.want, place, c.wantErr)
			if asked := g.asks(); slices.Contains(asked, mostLeaves+1) {
				t.Errorf("get was asked of one leaf too many, at the end of %d", len(asked))
			}
		}
	}
	g := groveOf(map[uint32]api.Page{mostLeaves: leaf(0, "b")})
	for i := uint32(1); i < mostLeaves; i++ {
		g.set(i, leaf(i+1, "b"))
	}
	seeks(t, g, 1, "c", 0, 0, api.ErrNone)
	g.errs[mostLeaves] = 88
	seeks(t, g, 1, "c", 0, 0, 88)
	seeks(t, g, 2, "b", 2, 0, api.OK)
}
