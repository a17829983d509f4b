package node

import (
	"cmp"
	"encoding/binary"
	"slices"

	"cadastre/api"
)

// This file is the chapter's words written anew, sentence by sentence, for the tests to hold the program against; it asks a grove for pages, which keeps what it was asked for.

// mayPage tells whether a page may be, by layer 7's words.
func mayPage(p api.Page) bool {
	whole := 18
	var texts []string
	for _, c := range p.Cells {
		if !c.Used || len(c.Data) < 1 || len(c.Data) > mostCell {
			return false
		}
		text := string(c.Data)
		if p.Kind == innerKind {
			if c.Killer != 0 || len(text) < 5 {
				return false
			}
			text = text[:len(text)-4]
		}
		texts = append(texts, text)
		whole += 6 + len(c.Data)
	}
	for i := 1; i < len(texts); i++ {
		if texts[i-1] >= texts[i] {
			return false
		}
	}
	return (p.Kind == leafKind || p.Kind == innerKind) && len(p.Cells) <= mostCells && whole <= pageBytes
}

// wordsAsk asks for a page (P8.1). A heap is refused as a page that may not be is.
func wordsAsk(g *grove, number uint32) (api.Page, api.Errno) {
	if number == 0 {
		return api.Page{}, api.ErrForm
	}
	p, e := g.get(number)
	if e != api.OK {
		return api.Page{}, e
	}
	if !mayPage(p) || p.Kind == innerKind && len(p.Cells) == 0 {
		return api.Page{}, api.ErrForm
	}
	return p, api.OK
}

// wordsParts tells an inner page's cell's entry and child.
func wordsParts(c api.Cell) (string, uint32) {
	n := len(c.Data) - 4
	return string(c.Data[:n]), binary.BigEndian.Uint32(c.Data[n:])
}

// wordsDown is the way down (P8.2).
func wordsDown(g *grove, root uint32, text string) (path []uint32, was []api.Page, e api.Errno) {
	for at := root; ; {
		if len(path) == mostHigh {
			return nil, nil, api.ErrForm
		}
		p, e := wordsAsk(g, at)
		if e != api.OK {
			return nil, nil, e
		}
		path, was = append(path, at), append(was, p)
		if p.Kind == leafKind {
			return path, was, api.OK
		}
		at = p.Next
		for _, c := range p.Cells {
			if entry, child := wordsParts(c); text >= entry {
				at = child
			}
		}
	}
}

func wordsEntry(s string) bool { return len(s) > 0 && len(s) < 147 }

func wordsPath(g *grove, root uint32, entry string) ([]uint32, api.Errno) {
	if root == 0 || !wordsEntry(entry) {
		return nil, api.ErrArg
	}
	path, _, e := wordsDown(g, root, entry)
	return path, e
}

func wordsSeek(g *grove, root uint32, from string) (uint32, int, api.Errno) {
	if root == 0 {
		return 0, 0, api.ErrArg
	}
	path, was, e := wordsDown(g, root, from)
	if e != api.OK {
		return 0, 0, e
	}
	at, p := path[len(path)-1], was[len(was)-1]
	for leaves := 1; leaves <= mostLeaves; leaves++ {
		for i, c := range p.Cells {
			if string(c.Data) >= from {
				return at, i, api.OK
			}
		}
		if p.Next == 0 {
			return 0, 0, api.ErrNone
		}
		if leaves == mostLeaves {
			break
		}
		at = p.Next
		p, e = wordsAsk(g, at)
		if e != api.OK {
			return 0, 0, e
		}
		if p.Kind != leafKind {
			return 0, 0, api.ErrForm
		}
	}
	return 0, 0, api.ErrForm
}

// wordsDivided is what becomes of the pages of a path (P8.4), how many fresh ones there are, and whether the root is divided.
func wordsDivided(path []uint32, was []api.Page, entry string, number func(i int) uint32) (after []api.Image, fresh int, root bool) {
	one := func() uint32 { fresh++; return number(fresh - 1) }
	textOf := func(level int, c api.Cell) string {
		if level == len(path)-1 {
			return string(c.Data)
		}
		text, _ := wordsParts(c)
		return text
	}
	comes := cell(entry)
	for level := len(path) - 1; level >= 0; level-- {
		p := was[level]
		isLeaf := level == len(path)-1
		place := 0
		for place < len(p.Cells) && textOf(level, p.Cells[place]) < textOf(level, comes) {
			place++
		}
		row := slices.Concat(p.Cells[:place], []api.Cell{comes}, p.Cells[place:])
		whole := 0
		for _, c := range row {
			whole += 6 + len(c.Data)
		}
		if len(row) <= mostCells && 18+whole <= pageBytes {
			if !isLeaf {
				after = append(after, api.Image{Page: path[level], To: api.Page{Kind: innerKind, LSN: p.LSN, Next: p.Next, Cells: row}})
			}
			return after, fresh, false
		}
		most := len(row) - 2
		if isLeaf {
			most = len(row) - 1
		}
		left, sum := 0, 0
		for left < most {
			sum += 6 + len(row[left].Data)
			left++
			if sum+sum >= whole {
				break
			}
		}
		leftAt, lsn := path[level], p.LSN
		if level == 0 {
			leftAt, lsn = one(), 0
		}
		rightAt := one()
		l := api.Page{Kind: p.Kind, LSN: lsn}
		r := api.Page{Kind: p.Kind}
		if isLeaf {
			l.Next, r.Next = rightAt, p.Next
			for i, c := range row {
				switch {
				case i == place:
				case i < left:
					l.Cells = append(l.Cells, c)
				default:
					r.Cells = append(r.Cells, c)
				}
			}
			comes = to(string(row[left].Data), rightAt)
		} else {
			text, child := wordsParts(row[left])
			l.Next, r.Next = p.Next, child
			l.Cells, r.Cells = row[:left], row[left+1:]
			comes = to(text, rightAt)
		}
		after = append(after, api.Image{Page: leftAt, To: l}, api.Image{Page: rightAt, To: r})
		if level == 0 {
			after = append(after, api.Image{Page: path[0], To: api.Page{Kind: innerKind, LSN: p.LSN, Next: leftAt, Cells: []api.Cell{comes}}})
		}
	}
	return after, fresh, true
}

func wordsNeeds(g *grove, path []uint32, entry string) (int, api.Errno) {
	if len(path) == 0 || path[0] == 0 || !wordsEntry(entry) {
		return 0, api.ErrArg
	}
	told, was, e := wordsDown(g, path[0], entry)
	if e != api.OK {
		return 0, e
	}
	if !slices.Equal(told, path) {
		return 0, api.ErrArg
	}
	for _, c := range was[len(was)-1].Cells {
		if string(c.Data) == entry {
			return 0, api.ErrThere
		}
	}
	after, n, root := wordsDivided(path, was, entry, func(i int) uint32 { return uint32(1<<31 + i) })
	if root && len(path)+1 > mostHigh {
		return 0, api.ErrFull
	}
	for _, image := range after {
		if !mayPage(image.To) {
			return 0, api.ErrForm
		}
	}
	return n, api.OK
}

func wordsSplit(g *grove, path []uint32, entry string, fresh []uint32) ([]api.Image, api.Errno) {
	n, e := wordsNeeds(g, path, entry)
	if e != api.OK {
		return nil, e
	}
	if len(fresh) != n {
		return nil, api.ErrArg
	}
	used := map[uint32]bool{0: true}
	for _, number := range path {
		used[number] = true
	}
	for _, number := range fresh {
		if used[number] {
			return nil, api.ErrArg
		}
		used[number] = true
	}
	asked := g.asks()
	_, was, _ := wordsDown(g, path[0], entry)
	g.asked = asked
	after, _, _ := wordsDivided(path, was, entry, func(i int) uint32 { return fresh[i] })
	slices.SortFunc(after, func(a, b api.Image) int { return cmp.Compare(a.Page, b.Page) })
	return after, api.OK
}

// side is what an entry has to be, because of a cell above: not below it, or below it.
type side struct {
	entry string
	below bool
}

// toVisit is a page that is to be come to.
type toVisit struct {
	number uint32
	deep   int
	sides  []side
}

// wordsOver goes over all pages (P8.5), and asks what Check asks where asked.
func wordsOver(g *grove, root uint32, asked bool) (cells []api.Cell, numbers []uint32, e api.Errno) {
	if root == 0 {
		return nil, nil, api.ErrArg
	}
	var leaves, nexts []uint32
	leafDeep := 0
	for stack := []toVisit{{root, 1, nil}}; len(stack) > 0; {
		at := stack[len(stack)-1]
		stack = stack[:len(stack)-1]
		if slices.Contains(numbers, at.number) || at.deep > mostHigh {
			return nil, nil, api.ErrForm
		}
		p, e := wordsAsk(g, at.number)
		if e != api.OK {
			return nil, nil, e
		}
		numbers = append(numbers, at.number)
		if asked && !wordsLie(p, at.sides) {
			return nil, nil, api.ErrForm
		}
		if p.Kind == leafKind {
			if len(leaves) == 0 {
				leafDeep = at.deep
			}
			if asked && at.deep != leafDeep {
				return nil, nil, api.ErrForm
			}
			leaves, nexts, cells = append(leaves, at.number), append(nexts, p.Next), append(cells, p.Cells...)
			continue
		}
		children := wordsChildren(p, at)
		slices.Reverse(children)
		stack = append(stack, children...)
	}
	if asked && !slices.Equal(append(leaves[1:], 0), nexts) {
		return nil, nil, api.ErrForm
	}
	slices.Sort(numbers)
	return cells, numbers, api.OK
}

func wordsChildren(p api.Page, at toVisit) []toVisit {
	var list []toVisit
	for i := -1; i < len(p.Cells); i++ {
		child, sides := p.Next, slices.Clone(at.sides)
		if i >= 0 {
			var entry string
			entry, child = wordsParts(p.Cells[i])
			sides = append(sides, side{entry, false})
		}
		if i+1 < len(p.Cells) {
			entry, _ := wordsParts(p.Cells[i+1])
			sides = append(sides, side{entry, true})
		}
		list = append(list, toVisit{child, at.deep + 1, sides})
	}
	return list
}

// wordsLie tells whether all entries of a page are some, and lie where they must.
func wordsLie(p api.Page, sides []side) bool {
	for _, c := range p.Cells {
		text := string(c.Data)
		if p.Kind == innerKind {
			text, _ = wordsParts(c)
		}
		if !wordsEntry(text) {
			return false
		}
		for _, s := range sides {
			if (text < s.entry) != s.below {
				return false
			}
		}
	}
	return true
}
