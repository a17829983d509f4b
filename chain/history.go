package chain

import (
	"bytes"
	"slices"

	"cadastre/api"
	"cadastre/page"
)

// mayBeRedone tells whether pages' numbers rise strictly, none 0, and each may be, or is the zero page.
func mayBeRedone(pages []api.Image) bool {
	last := uint32(0)
	for _, p := range pages {
		if p.Page <= last || !isZero(p.To) && !page.May(p.To) {
			return false
		}
		last = p.Page
	}
	return true
}

// isZero tells whether it is the zero page.
func isZero(p api.Page) bool {
	return p.Kind == 0 && p.LSN == 0 && p.Next == 0 && len(p.Cells) == 0
}

// history is pages for which history is repeated.
type history struct {
	pages  []api.Image
	places map[uint32]int // of each page's number the place
}

// bring makes a history of pages, which shares nothing with them.
func bring(pages []api.Image) *history {
	h := &history{places: map[uint32]int{}}
	for place, p := range pages {
		h.pages = append(h.pages, api.Image{Page: p.Page, To: copied(p.To)})
		h.places[p.Page] = place
	}
	return h
}

// copied makes a page that shares nothing with another one.
func copied(from api.Page) api.Page {
	from.Cells = slices.Clone(from.Cells)
	for i := range from.Cells {
		from.Cells[i].Data = bytes.Clone(from.Cells[i].Data)
	}
	return from
}

// repeat repeats what a record did.
func (h *history) repeat(r api.Record) api.Errno {
	switch r.Kind {
	case api.RecDo, api.RecUndo:
		return h.become(r.Page, r.LSN, func(p api.Page) (api.Page, api.Errno) { return page.Do(p, r.Op) })
	case api.RecShape:
		for _, image := range r.Images {
			e := h.become(image.Page, r.LSN, func(api.Page) (api.Page, api.Errno) { return copied(image.To), api.OK })
			if e != api.OK {
				return e
			}
		}
	}
	return api.OK
}

// become makes a page what a record made of it, unless it is that already, or what a later one made.
func (h *history) become(number uint32, lsn uint64, made func(api.Page) (api.Page, api.Errno)) api.Errno {
	place, there := h.places[number]
	if !there {
		return api.ErrNone
	}
	p := &h.pages[place].To
	if p.LSN >= lsn {
		return api.OK
	}
	to, e := made(*p)
	if e != api.OK {
		return api.ErrForm
	}
	to.LSN = lsn
	*p = to
	return api.OK
}
