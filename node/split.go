package node

import (
	"bytes"
	"cmp"
	"slices"

	"cadastre/api"
	"cadastre/page"
)

// How many cells at the end of a row stay for its right half at least: of an inner page one goes up, and one is to be left.
const (
	leafStay  = 1
	innerStay = 2
)

// prepare tells the pages of a path, and how many fresh ones an entry wants there; it gives up with Needs's errors.
func prepare(get Get, path []uint32, entry []byte) ([]api.Image, int) {
	must(len(path) > 0 && path[0] != 0 && isEntry(entry), api.ErrArg)
	way := wayDown(get, path[0], entry)
	must(slices.Equal(path, numbers(way)), api.ErrArg)
	must(!hasEntry(way[len(way)-1].To, entry), api.ErrThere)
	needs := 0
	made := grow(way, entry, func() uint32 {
		needs++
		return 0
	})
	// More pages than the way has are wanted only where the root is divided too, and then the way grows by one.
	must(needs <= api.MaxHigh, api.ErrFull)
	for _, image := range made {
		must(page.May(image.To), api.ErrForm)
	}
	return way, needs
}

// hasEntry tells whether a leaf has a cell of an entry.
func hasEntry(leaf api.Page, entry []byte) bool {
	at := placeOf(leaf, entry)
	return at < len(leaf.Cells) && bytes.Equal(leaf.Cells[at].Data, entry)
}

// areFresh tells whether numbers may be those of fresh pages beside a path.
func areFresh(fresh, path []uint32) bool {
	for i, number := range fresh {
		if number == 0 || slices.Contains(fresh[:i], number) || slices.Contains(path, number) {
			return false
		}
	}
	return true
}

// split tells the pages as they are to be, by their numbers.
func split(way []api.Image, entry []byte, fresh []uint32) []api.Image {
	taken := 0
	made := grow(way, entry, func() uint32 {
		taken++
		return fresh[taken-1]
	})
	slices.SortFunc(made, func(a, b api.Image) int { return cmp.Compare(a.Page, b.Page) })
	return made
}

// grow tells the pages as they are to be, so that an entry has room in the leaf at the end of a way: none, if it has.
// The fresh pages' numbers are those that take tells, one behind the other.
func grow(way []api.Image, entry []byte, take func() uint32) []api.Image {
	if page.Room(way[len(way)-1].To) >= len(entry) {
		return nil
	}
	var made []api.Image
	var left uint32
	up := api.Cell{Used: true, Data: entry}
	for depth, was := range slices.Backward(way) {
		row, at := withCell(was.To, up)
		if fits(row) {
			was.To.Cells = row
			return append(made, was)
		}
		if depth == 0 {
			// The root's number stays the tree's: its left half goes away as well.
			was.Page, was.To.LSN = take(), 0
		}
		left = was.Page
		right := api.Image{Page: take()}
		was.To, right.To, up = divide(was.To, row, at, right.Page)
		made = append(made, was, right)
	}
	root := api.Page{Kind: api.PageInner, LSN: way[0].To.LSN, Next: left, Cells: []api.Cell{up}}
	return append(made, api.Image{Page: way[0].Page, To: root})
}

// withCell tells a page's cells with a new one in its place among them, ahead of one with an equal entry, and that place.
func withCell(p api.Page, c api.Cell) ([]api.Cell, int) {
	at := placeOf(p, entryOf(p.Kind, c))
	return copied(slices.Insert(slices.Clone(p.Cells), at, c)), at
}

// fits tells whether a row of cells has room on a page.
func fits(row []api.Cell) bool {
	return len(row) <= api.MaxCells && page.Size(api.Page{Cells: row}) <= api.PageSize
}

// divide tells the two pages that a page becomes, by the row of its cells with the new one at a place, and the cell that comes up for the right one, which is to have the number fresh.
func divide(p api.Page, row []api.Cell, at int, fresh uint32) (left, right api.Page, up api.Cell) {
	if p.Kind == api.PageLeaf {
		return divideLeaf(p, row, at, fresh)
	}
	n := cut(row, innerStay)
	first := row[n]
	left, right = p, api.Page{Kind: p.Kind, Next: childOf(first)}
	left.Cells, right.Cells = slices.Clone(row[:n]), slices.Clone(row[n+1:])
	return left, right, childCell(entryOf(p.Kind, first), fresh)
}

// divideLeaf divides a leaf: the new cell takes part, but is in neither half, for it is to be put there by an operation of its own.
func divideLeaf(p api.Page, row []api.Cell, at int, fresh uint32) (left, right api.Page, up api.Cell) {
	n := cut(row, leafStay)
	up = childCell(row[n].Data, fresh)
	row = slices.Delete(row, at, at+1)
	if at < n {
		n--
	}
	left, right = p, api.Page{Kind: p.Kind, Next: p.Next}
	left.Next = fresh
	left.Cells, right.Cells = slices.Clone(row[:n]), slices.Clone(row[n:])
	return left, right, up
}

// cut tells how many cells of a row are its left half, where so many at its end stay for the right one.
func cut(row []api.Cell, stay int) int {
	n := 0
	for n < len(row)-stay && 2*weight(row[:n]) < weight(row) {
		n++
	}
	return n
}

// weight tells how many bytes cells have on a page.
func weight(cells []api.Cell) int { return page.Size(api.Page{Cells: cells}) - page.Size(api.Page{}) }
