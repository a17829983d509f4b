package node

import (
	"bytes"
	"iter"
	"sort"

	"cadastre/api"
	"cadastre/page"
)

// maxEntry is how many bytes an entry may have.
const maxEntry = api.MaxKey + 6

// childBytes is how many bytes of an inner page's cell the child's number has, behind the entry.
const childBytes = 4

// isEntry tells whether a text is an entry.
func isEntry(text []byte) bool { return len(text) >= 1 && len(text) <= maxEntry }

// entryOf tells the entry in a cell of a leaf or of an inner page.
func entryOf(kind int, c api.Cell) []byte {
	if kind == api.PageInner {
		return c.Data[:len(c.Data)-childBytes]
	}
	return c.Data
}

// childOf tells the child's number in a cell of an inner page.
func childOf(c api.Cell) uint32 {
	var number uint32
	for _, x := range c.Data[len(c.Data)-childBytes:] {
		number = number<<8 | uint32(x)
	}
	return number
}

// childCell makes a cell of an inner page.
func childCell(entry []byte, child uint32) api.Cell {
	data := bytes.Clone(entry)
	for shift := 8 * (childBytes - 1); shift >= 0; shift -= 8 {
		data = append(data, byte(child>>shift))
	}
	return api.Cell{Used: true, Data: data}
}

// span is where entries lie: not below from, and below to; no bytes in to: there is no end.
type span struct{ from, to []byte }

func (s span) has(text []byte) bool {
	return bytes.Compare(text, s.from) >= 0 && (len(s.to) == 0 || bytes.Compare(text, s.to) < 0)
}

// children goes over an inner page's children, from left to right: their numbers, and where the entries of each lie, if those of the page lie within.
func children(p api.Page, within span) iter.Seq2[uint32, span] {
	return func(yield func(uint32, span) bool) {
		number, from := p.Next, within.from
		for _, c := range p.Cells {
			entry := entryOf(p.Kind, c)
			if !yield(number, span{from, entry}) {
				return
			}
			number, from = childOf(c), entry
		}
		yield(number, span{from, within.to})
	}
}

// ask tells a page of a tree.
func ask(get Get, number uint32) api.Page {
	must(number != 0, api.ErrForm)
	must(get != nil, api.ErrArg)
	p, e := get(number)
	must(e == api.OK, e)
	must(page.May(p), api.ErrForm)
	must(p.Kind == api.PageLeaf || p.Kind == api.PageInner && len(p.Cells) > 0, api.ErrForm)
	return p
}

// wayDown tells the pages from the root down to the leaf in which a text would lie.
func wayDown(get Get, root uint32, text []byte) []api.Image {
	var way []api.Image
	for number := root; ; {
		must(len(way) < api.MaxHigh, api.ErrForm)
		p := ask(get, number)
		way = append(way, api.Image{Page: number, To: p})
		if p.Kind == api.PageLeaf {
			return way
		}
		number = childFor(p, text)
	}
}

// childFor tells in which child a text would lie.
func childFor(p api.Page, text []byte) uint32 {
	var number uint32
	for child, lies := range children(p, span{}) {
		number = child
		if lies.has(text) {
			break
		}
	}
	return number
}

// numbers tells the pages' numbers.
func numbers(pages []api.Image) []uint32 {
	var list []uint32
	for _, image := range pages {
		list = append(list, image.Page)
	}
	return list
}

// placeOf tells the first place whose entry is not below a text; behind the last one, if there is none.
func placeOf(p api.Page, text []byte) int {
	return sort.Search(len(p.Cells), func(i int) bool { return bytes.Compare(entryOf(p.Kind, p.Cells[i]), text) >= 0 })
}

// spot is where an entry is.
type spot struct {
	page  uint32
	place int
}

// seek tells where the first entry is that is not below from, going down, and then along the leaves.
func seek(get Get, root uint32, from []byte) spot {
	way := wayDown(get, root, from)
	number, leaf := way[len(way)-1].Page, way[len(way)-1].To
	for gone := 1; ; gone++ {
		if place := placeOf(leaf, from); place < len(leaf.Cells) {
			return spot{number, place}
		}
		must(leaf.Next != 0, api.ErrNone)
		// Leaves that lead round and round would never end.
		must(gone < api.MaxSectors, api.ErrForm)
		number = leaf.Next
		leaf = ask(get, number)
		must(leaf.Kind == api.PageLeaf, api.ErrForm)
	}
}
