package node

import (
	"slices"
	"strconv"
	"strings"
	"testing"

	"cadastre/api"
	"cadastre/page"
)

// growing is a tree that is made from an empty leaf by Path, Needs, Split and Puts, and the entries that were put.
type growing struct {
	g       *grove
	root    uint32
	free    uint32 // the next number for a fresh page
	entries map[string]bool
}

func newGrowing(root uint32) *growing {
	return &growing{groveOf(map[uint32]api.Page{root: {Kind: leafKind}}), root, root + 1, map[string]bool{}}
}

// put puts an entry: what was answered, where it is refused.
func (x *growing) put(t *testing.T, entry string) api.Errno {
	t.Helper()
	path, e := Path(x.g.get, x.root, entry)
	if e != api.OK {
		t.Fatalf("Path(%q): %d", entry, int(e))
	}
	n, e := Needs(x.g.get, path, entry)
	if e != api.OK {
		return e
	}
	if n > 0 {
		var fresh []uint32
		for range n {
			fresh = append(fresh, x.free)
			x.free++
		}
		images, e := Split(x.g.get, path, entry, fresh)
		if e != api.OK {
			t.Fatalf("Split(%v, %q, %v): %d", path, entry, fresh, int(e))
		}
		for _, image := range images {
			x.g.set(image.Page, image.To)
		}
		path, e = Path(x.g.get, x.root, entry)
		if e != api.OK {
			t.Fatalf("Path behind Split: %d", int(e))
		}
		needs(t, x.g, path, entry, 0, api.OK)
	}
	at := path[len(path)-1]
	p, e := page.Do(x.g.pages[at], api.Op{Kind: api.OpPut, Data: []byte(entry)})
	if e != api.OK {
		t.Fatalf("Put(%q): %d: %s", entry, int(e), shownPage(x.g.pages[at]))
	}
	x.g.set(at, p)
	x.entries[entry] = true
	return api.OK
}

// isRight asks that the tree is right, and has just the entries that were put.
func (x *growing) isRight(t *testing.T) {
	t.Helper()
	if _, _, e := wordsOver(x.g, x.root, true); e != api.OK {
		t.Fatalf("the tree is not right: %v", x.g)
	}
	checks(t, x.g, x.root, api.OK)
	var want []string
	for s := range x.entries {
		want = append(want, s)
	}
	slices.Sort(want)
	alls(t, x.g, x.root, want, api.OK)
	pages(t, x.g, x.root, numbersOf(x.g), api.OK)
	x.g.asks()
}

func numbersOf(g *grove) []uint32 {
	var list []uint32
	for number := range g.pages {
		list = append(list, number)
	}
	slices.Sort(list)
	return list
}

// seeksAll asks that Seek tells the first entry that is not below a text: of each entry, and of texts beside it.
func (x *growing) seeksAll(t *testing.T) {
	t.Helper()
	cells, _ := All(x.g.get, x.root)
	for i, c := range cells {
		s := string(c.Data)
		for from, want := range map[string]int{s: i, s + "\x00": i + 1, s[:len(s)-1]: -1} {
			if want < 0 {
				want = 0
				for string(cells[want].Data) < from {
					want++
				}
			}
			at, place, e := Seek(x.g.get, x.root, from)
			switch {
			case want == len(cells) && e != api.ErrNone:
				t.Fatalf("Seek(%q): %d", from, int(e))
			case want < len(cells) && (e != api.OK || string(x.g.pages[at].Cells[place].Data) != string(cells[want].Data)):
				t.Fatalf("Seek(%q): %d, %d, %d, want %q", from, at, place, int(e), cells[want].Data)
			}
		}
	}
}

// orders are entries to put, in many orders and of many lengths.
func orders() map[string]func(i int) string {
	pick := picker(3)
	padded := func(i, n int) string { return long(strings.Repeat("0", 6-len(strconv.Itoa(i)))+strconv.Itoa(i), n) }
	return map[string]func(i int) string{
		"rising, long":    func(i int) string { return padded(i, 146) },
		"falling, long":   func(i int) string { return padded(999999-i, 146) },
		"rising, short":   func(i int) string { return padded(i, 6) },
		"falling, short":  func(i int) string { return padded(999999-i, 6) },
		"anywhere, long":  func(i int) string { return padded(pick(1000000), 146) },
		"anywhere, short": func(i int) string { return padded(pick(1000000), 6) },
		"of any length":   func(i int) string { return padded(pick(1000000), 6+pick(141)) },
		"of two lengths":  func(i int) string { return padded(pick(1000000), 6+140*pick(2)) },
		"to the middle":   func(i int) string { return padded(500000+(i%2*2-1)*(5000-i), 100+pick(47)) },
		"in one gap":      func(i int) string { return long("m", 1+i/200) + padded(i, 6+pick(60)) },
		"any bytes": func(i int) string {
			b := make([]byte, 1+pick(1+pick(146)))
			for j := range b {
				b[j] = byte(pick(4)) * 85
			}
			return string(b)
		},
		"beginnings of one another": func(i int) string { return strings.Repeat("\x00", 1+i%146) + strings.Repeat("\xff", i/146%20) },
		"one byte":                  func(i int) string { return string([]byte{byte(37 * i)}) },
	}
}

// P8.8, P8.7: trees that grow from an empty leaf.
func TestGrow(t *testing.T) {
	for name, next := range orders() {
		x := newGrowing(7)
		for i := range 900 {
			entry := next(i)
			if len(entry) > mostEntry {
				continue
			}
			wantErr := api.OK
			if x.entries[entry] {
				wantErr = api.ErrThere
			}
			if e := x.put(t, entry); e != wantErr {
				if e == api.ErrFull && strings.HasSuffix(name, "long") {
					break
				}
				t.Fatalf("%s: the entry %d, %q: %d, want %d", name, i, entry, int(e), int(wantErr))
			}
			if i < 60 || i%60 == 0 {
				x.isRight(t)
			}
		}
		x.isRight(t)
		x.seeksAll(t)
		if len(x.entries) < 200 {
			t.Errorf("%s: %d entries alone: not a test", name, len(x.entries))
		}
	}
}

// P8.3, P8.8: entries of 146 bytes that rise, until the tree is as high as may be, and full: ErrFull, and it is right.
func TestGrowTillFull(t *testing.T) {
	x := newGrowing(1 << 31)
	e := api.OK
	for i := 0; e == api.OK; i++ {
		e = x.put(t, long(strconv.Itoa(1000000+i), 146))
	}
	path, _ := Path(x.g.get, x.root, "2")
	if e != api.ErrFull || len(path) != mostHigh {
		t.Errorf("it ends with %d, of %d entries, on the way %v", int(e), len(x.entries), path)
	}
	x.isRight(t)
	// A short one has room yet.
	if e := x.put(t, "0"); e != api.OK {
		t.Errorf("a short entry: %d", int(e))
	}
}

// P8.7: what was killed, and LSNs, stay through Splits.
func TestGrowKilled(t *testing.T) {
	pick := picker(11)
	x := newGrowing(1)
	killers := map[string]uint32{}
	for i := range 400 {
		entry := long(strconv.Itoa(100000+pick(800000)), 6+pick(141))
		if x.put(t, entry) != api.OK {
			continue
		}
		path, _ := Path(x.g.get, 1, entry)
		p := x.g.pages[path[len(path)-1]]
		for j := range p.Cells {
			if string(p.Cells[j].Data) == entry && pick(2) == 0 {
				p.Cells[j].Killer = uint32(1 + i)
				killers[entry] = uint32(1 + i)
			}
		}
	}
	cells, e := All(x.g.get, 1)
	if e != api.OK || len(cells) != len(x.entries) {
		t.Fatalf("All: %d cells, %d", len(cells), int(e))
	}
	for _, c := range cells {
		if c.Killer != killers[string(c.Data)] {
			t.Errorf("%q was killed by %d, and All tells %d", c.Data, killers[string(c.Data)], c.Killer)
		}
	}
}
