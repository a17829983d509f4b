package node

import (
	"fmt"
	"math"
	"slices"
	"strings"

	"cadastre/api"
)

// picker answers numbers below n that hang on a seed.
func picker(seed int) func(n int) int {
	x := uint64(seed)*0x9E3779B97F4A7C15 + 88172645463325252
	return func(n int) int {
		x ^= x << 13
		x ^= x >> 7
		x ^= x << 17
		return int(x >> 33 % uint64(n))
	}
}

// maker makes right trees, whose entries rise as they are made.
type maker struct {
	pick    func(n int) int
	g       *grove
	style   int    // how long entries are: short, long, both, all of 146 bytes
	many    int    // cells of a page that is not to be full
	roomy   int    // how many pages from the root down are not full, though a tree is to be
	key     int    // the last entry's number
	border  string // the last border between children: the next entry may be just that
	last    uint32 // the last leaf
	texts   []string
	numbers []uint32
}

// length is how many bytes an entry is to have.
func (m *maker) length() int {
	switch {
	case m.style == 0 || m.style == 2 && m.pick(2) == 0:
		return 5 + m.pick(5)
	case m.style == 3:
		return mostEntry
	}
	return 100 + m.pick(47)
}

// text is a text above all that were told.
func (m *maker) text() string {
	m.key++
	s := fmt.Sprintf("%05d", m.key)
	s += strings.Repeat(string(rune('a'+m.pick(26))), m.length()-len(s))
	m.texts = append(m.texts, s)
	return s
}

// number is one of no page yet.
func (m *maker) number() uint32 {
	for {
		number := uint32(1 + m.pick(1<<(1+m.pick(31))))
		if _, there := m.g.pages[number]; !there {
			m.g.set(number, api.Page{})
			m.numbers = append(m.numbers, number)
			return number
		}
	}
}

// tree is a tree, so high, whose pages are full on one way down, or on none: its root.
func (m *maker) tree(high int, full bool) uint32 {
	number := m.number()
	if high == 1 {
		m.leaf(number, full)
		return number
	}
	p := api.Page{Kind: innerKind, LSN: uint64(m.pick(1 << 30))}
	fullHere, fullChild := full, m.pick(4)
	if m.roomy > 0 {
		m.roomy--
		fullHere, fullChild = false, 0
		defer func() { m.roomy++ }()
	}
	p.Next = m.tree(high-1, full && fullChild == 0)
	whole := 18
	for fullHere || len(p.Cells) == 0 || m.pick(m.many) > 0 {
		border := m.text()
		if whole += 10 + len(border); whole > pageBytes {
			break
		}
		m.border = border
		child := m.tree(high-1, full && fullChild == len(p.Cells)+1)
		p.Cells = append(p.Cells, to(border, child))
	}
	m.g.set(number, p)
	return number
}

// leaf is a leaf, whose entries follow all others.
func (m *maker) leaf(number uint32, full bool) {
	p := api.Page{Kind: leafKind, LSN: uint64(m.pick(1 << 30))}
	whole := 18
	for full || m.pick(m.many) > 0 {
		s := m.text()
		if len(p.Cells) == 0 && m.border != "" && m.pick(2) == 0 {
			s = m.border
		}
		if whole += 6 + len(s); whole > pageBytes || len(p.Cells) == mostCells {
			break
		}
		c := cell(s)
		if m.pick(4) == 0 {
			c.Killer = uint32(m.pick(9))
		}
		p.Cells = append(p.Cells, c)
	}
	if before, there := m.g.pages[m.last]; there {
		before.Next = number
		m.g.set(m.last, before)
	}
	m.last = number
	m.g.set(number, p)
}

// made is a tree that hangs on a seed: its pages, its root, and the texts of its entries and borders.
func made(seed int) (*maker, uint32) {
	pick := picker(seed)
	m := &maker{pick: pick, g: groveOf(map[uint32]api.Page{}), style: pick(4), many: 1 + pick(4)}
	high := 1 + pick(4)
	return m, m.tree(high, pick(4) > 0)
}

// someText is a text that may be wanted in a tree: one that is there, or one beside it, or any.
func (m *maker) someText() string {
	s := "x"
	if len(m.texts) > 0 {
		s = m.texts[m.pick(len(m.texts))]
	}
	switch m.pick(8) {
	case 0:
		return s
	case 1:
		return long(s[:min(len(s), 5)]+"~", 6+m.pick(150))
	case 2:
		return s[:m.pick(len(s)+1)]
	case 3:
		return []string{"", "\x00", "\xff", long("\xff", 146), long("0", 147), "~"}[m.pick(6)]
	}
	return long(s[:min(len(s), 5)]+"~", 6+m.pick(141))
}

// somePage is one of a tree's pages.
func (m *maker) somePage() uint32 { return m.numbers[m.pick(len(m.numbers))] }

// someNumber is one that stands somewhere in a tree, or nowhere.
func (m *maker) someNumber() uint32 {
	if m.pick(3) == 0 {
		return []uint32{0, 0, 1, math.MaxUint32, uint32(m.pick(1 << 30))}[m.pick(5)]
	}
	return m.somePage()
}

// spoil changes one thing somewhere in a tree.
func (m *maker) spoil() {
	number := m.somePage()
	p := twin(m.g.pages[number])
	switch m.pick(11) {
	case 0:
		p.Next = m.someNumber()
	case 1:
		m.g.errs[number] = api.Errno(80 + m.pick(5))
	case 2:
		p.Kind = m.pick(4)
	case 3:
		p.Cells = nil
	case 4:
		other := m.somePage()
		q := m.g.pages[other]
		m.g.set(other, p)
		p = q
	case 5, 6:
		p.Cells = m.spoilCell(p)
	default:
		p.Cells = m.moreCells(p)
	}
	m.g.set(number, p)
}

// spoilCell changes one of a page's cells, or takes it away, or another one twice.
func (m *maker) spoilCell(p api.Page) []api.Cell {
	if len(p.Cells) == 0 {
		return []api.Cell{cell(long("0", 1+m.pick(180)))}
	}
	i := m.pick(len(p.Cells))
	switch m.pick(5) {
	case 0:
		return slices.Delete(p.Cells, i, i+1)
	case 1:
		p.Cells[i].Killer ^= 5
	case 2:
		p.Cells[i].Data = []byte(m.someText() + "1234")
	default:
		if p.Kind == innerKind && len(p.Cells[i].Data) > 4 {
			s, _ := wordsParts(p.Cells[i])
			p.Cells[i] = to(s, m.someNumber())
		} else {
			p.Cells[i].Data = append(p.Cells[i].Data, make([]byte, m.pick(60))...)
		}
	}
	return p.Cells
}

// moreCells puts one more among a page's cells, in its order: an entry of anywhere, so that the page may be, and the tree is wrong.
func (m *maker) moreCells(p api.Page) []api.Cell {
	s := m.someText()
	if len(m.texts) > 0 && m.pick(2) == 0 {
		s = m.texts[m.pick(len(m.texts))]
	}
	c := cell(s)
	if m.pick(3) == 0 {
		c.Data = append(c.Data, make([]byte, m.pick(180))...)
	}
	if p.Kind == innerKind {
		c = to(s, m.someNumber())
	}
	i := 0
	for i < len(p.Cells) && string(p.Cells[i].Data) < string(c.Data) {
		i++
	}
	for len(p.Cells) > 0 && m.pick(3) > 0 && wide(p.Cells, c) {
		i = min(i, len(p.Cells)-1)
		p.Cells = slices.Delete(p.Cells, i, i+1)
	}
	return slices.Insert(p.Cells, i, c)
}

// wide tells whether cells and one more have no room on a page.
func wide(cells []api.Cell, c api.Cell) bool {
	whole := 18 + 6 + len(c.Data)
	for _, other := range cells {
		whole += 6 + len(other.Data)
	}
	return whole > pageBytes
}
