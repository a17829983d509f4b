package node

import (
	"bytes"
	"fmt"
	"slices"
	"testing"

	"cadastre/api"
)

// spread is a page that is alike, with other cells and bytes behind the lengths of its lists, in the same memory.
func spread(p api.Page, behind byte) api.Page {
	p = twin(p)
	for i := range p.Cells {
		p.Cells[i].Data = append(p.Cells[i].Data, bytes.Repeat([]byte{behind}, 16)...)[:len(p.Cells[i].Data)]
	}
	more := slices.Repeat([]api.Cell{{Used: true, Killer: uint32(behind), Data: bytes.Repeat([]byte{behind}, 9)}}, 7)
	p.Cells = append(p.Cells, more...)[:len(p.Cells)]
	return p
}

// wholePage is a page with all that lies behind its lists' lengths, written out.
func wholePage(p api.Page) string {
	text := fmt.Sprint(p.Kind, p.LSN, p.Next, len(p.Cells))
	for _, c := range p.Cells[:cap(p.Cells)] {
		text += fmt.Sprintf(" %v %d %d %q", c.Used, c.Killer, len(c.Data), c.Data[:cap(c.Data)])
	}
	return text
}

// spreadGrove answers always the same pages, with something behind their lengths; whole tells all of them.
func spreadGrove(g *grove, behind byte) (other *grove, whole func() string) {
	other = g.copy()
	for number, p := range other.pages {
		other.set(number, spread(p, behind))
	}
	return other, func() string {
		text := ""
		for _, number := range numbersOf(other) {
			text += "\n" + fmt.Sprint(number) + ": " + wholePage(other.pages[number])
		}
		return text
	}
}

// spreadList is a list that is alike, with something behind its length.
func spreadList(list []uint32, behind uint32) []uint32 {
	return append(slices.Clone(list), behind, behind, behind)[:len(list)]
}

// callsOf are all calls on a tree, each with what it answers written out.
func callsOf(g *grove, root uint32, text string, path, fresh []uint32) []string {
	var answers []string
	a, e := Path(g.get, root, text)
	answers = append(answers, fmt.Sprint(a, int(e)))
	b, place, e := Seek(g.get, root, text)
	answers = append(answers, fmt.Sprint(b, place, int(e)))
	n, e := Needs(g.get, path, text)
	answers = append(answers, fmt.Sprint(n, int(e)))
	images, e := Split(g.get, path, text, fresh)
	answers = append(answers, shownImages(images), fmt.Sprint(int(e)))
	answers = append(answers, fmt.Sprint(int(Check(g.get, root))))
	cells, e := All(g.get, root)
	answers = append(answers, shownPage(api.Page{Cells: cells}), fmt.Sprint(int(e)))
	d, e := Pages(g.get, root)
	return append(answers, fmt.Sprint(d, int(e)))
}

// someFresh are n numbers of no page.
func someFresh(n int) []uint32 {
	var fresh []uint32
	for i := range n {
		fresh = append(fresh, uint32(1<<32-1-i*7))
	}
	return fresh
}

// P8.6: what is handed in, and what get answers, stays, and so does what lies behind the lengths, which is not read either.
func TestWhatIsHandedInStays(t *testing.T) {
	for seed := range 90 {
		m, root := made(50000 + seed)
		if seed%3 == 0 {
			m.spoil()
		}
		text := m.someText()
		path, _ := wordsPath(m.g, root, text)
		n, _ := wordsNeeds(m.g, path, text)
		var answers [][]string
		for _, behind := range []byte{0, 0xAA} {
			g, whole := spreadGrove(m.g, behind)
			was := whole()
			handed, fresh := spreadList(path, uint32(behind)), spreadList(someFresh(n), uint32(behind))
			answers = append(answers, callsOf(g, root, text, handed, fresh))
			if whole() != was {
				t.Fatalf("what get answered has changed: %s, it was %s", whole(), was)
			}
			if !slices.Equal(handed[:cap(handed)][:len(path)+3], append(slices.Clone(path), uint32(behind), uint32(behind), uint32(behind))) {
				t.Fatalf("the path has changed: %v", handed[:cap(handed)])
			}
			if !slices.Equal(fresh[:cap(fresh)][:n+3], append(someFresh(n), uint32(behind), uint32(behind), uint32(behind))) {
				t.Fatalf("the fresh numbers have changed: %v", fresh[:cap(fresh)])
			}
		}
		if !slices.Equal(answers[0], answers[1]) {
			t.Fatalf("answers hang on what lies behind the lengths: %q, %q", answers[0], answers[1])
		}
	}
}

// spoilBytes changes bytes, up to the end of the memory that they have.
func spoilBytes(b []byte) {
	b = b[:cap(b)]
	for i := range b {
		b[i] ^= 0xA5
	}
}

// spoilCells changes all the memory that cells have.
func spoilCells(cells []api.Cell) {
	cells = cells[:cap(cells)]
	for i := range cells {
		spoilBytes(cells[i].Data)
		cells[i] = api.Cell{Killer: 77}
	}
}

func spoilNumbers(list []uint32) {
	list = list[:cap(list)]
	for i := range list {
		list[i] ^= 0xA5A5
	}
}

// P8.6: what is answered is new memory: neither get's, nor what was handed in, nor an earlier answer's.
func TestAnswersAreNew(t *testing.T) {
	for seed := range 90 {
		m, root := made(60000 + seed)
		text := m.someText()
		path, _ := wordsPath(m.g, root, text)
		n, _ := wordsNeeds(m.g, path, text)
		fresh := someFresh(n)
		g, whole := spreadGrove(m.g, 0xAA)
		was := whole()
		want := callsOf(g, root, text, path, fresh)
		images, _ := Split(g.get, path, text, fresh)
		cells, _ := All(g.get, root)
		told, _ := Path(g.get, root, text)
		numbers, _ := Pages(g.get, root)
		keptImages, _ := Split(g.get, path, text, fresh)
		keptCells, _ := All(g.get, root)
		shown := shownImages(keptImages) + shownPage(api.Page{Cells: keptCells})
		for _, image := range images[:cap(images)] {
			spoilCells(image.To.Cells)
		}
		spoilCells(cells)
		spoilNumbers(told)
		spoilNumbers(numbers)
		if whole() != was || !slices.Equal(callsOf(g, root, text, path, fresh), want) {
			t.Fatalf("an answer shares memory with what get answers: %v", m.g)
		}
		for number := range g.pages {
			spoilCells(g.pages[number].Cells)
		}
		spoilNumbers(path)
		spoilNumbers(fresh)
		if shownImages(keptImages)+shownPage(api.Page{Cells: keptCells}) != shown {
			t.Fatalf("an answer shares memory with another one, or with what get answered: %v", m.g)
		}
	}
}

// P8.6: of an answer each list is its own.
func TestListsApart(t *testing.T) {
	apart := func(lists [][]api.Cell) {
		t.Helper()
		write := func() (text []string) {
			for _, cells := range lists {
				for _, c := range cells {
					text = append(text, shownCell(c))
				}
				text = append(text, "|")
			}
			return text
		}
		was := write()
		at := 0
		for _, cells := range lists {
			for i := range cells {
				spoilBytes(cells[i].Data)
				is := write()
				is[at] = was[at]
				if !slices.Equal(is, was) {
					t.Fatalf("the bytes of the cell %d are another one's too: %v, %v", at, was, is)
				}
				spoilBytes(cells[i].Data)
				at++
			}
			at++
		}
		for i, cells := range lists {
			end := append(cells, api.Cell{Killer: 99})
			if end[len(cells)].Killer != 99 || !slices.Equal(write(), was) {
				t.Fatalf("the list %d goes on in another one: %v, %v", i, was, write())
			}
		}
	}
	for seed := range 900 {
		m, root := made(70000 + seed)
		text := m.someText()
		path, _ := wordsPath(m.g, root, text)
		n, _ := wordsNeeds(m.g, path, text)
		if n == 0 {
			continue
		}
		images, _ := Split(m.g.get, path, text, someFresh(n))
		var lists [][]api.Cell
		for _, image := range images {
			lists = append(lists, image.To.Cells)
		}
		apart(lists)
		if cells, _ := All(m.g.get, root); len(cells) < 60 {
			apart([][]api.Cell{cells})
		}
	}
	// All cells have the same bytes' memory, so far as they may.
	data := []byte("abcdefgh")
	g := groveOf(map[uint32]api.Page{7: {Kind: leafKind}})
	p := g.pages[7]
	for i := range data {
		p.Cells = append(p.Cells, api.Cell{Used: true, Data: data[i:]})
	}
	g.set(7, p)
	cells, e := All(g.get, 7)
	if e != api.OK || len(cells) != 8 {
		t.Fatalf("All: %d cells, %d", len(cells), int(e))
	}
	apart([][]api.Cell{cells})
}
