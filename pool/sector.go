package pool

import (
	"bytes"
	"slices"

	"cadastre/api"
	"cadastre/page"
)

// sector is a sector's bytes.
type sector [api.PageSize]byte

// sectorOf tells the sector of a page.
func (p *Pool) sectorOf(number uint32) int { return p.log.Sectors() + int(number) }

// read reads a page from the disk.
func (p *Pool) read(number uint32) (api.Page, api.Errno) {
	b, e := p.disk.Read(p.sectorOf(number))
	if e != api.OK {
		return api.Page{}, e
	}
	var s sector
	copy(s[:], b)
	if s == (sector{}) {
		return api.Page{}, api.OK
	}
	return page.Decode(s[:])
}

// write writes a frame's page to the disk, if that is not done yet, and lets its log last ahead of it.
func (p *Pool) write(f *frame) api.Errno {
	if !f.unwritten {
		return api.OK
	}
	if f.page.LSN >= p.log.Durable() {
		if e := p.log.Flush(); e != api.OK {
			return e
		}
	}
	if e := p.disk.Write(p.sectorOf(f.number), bytesOf(f.page)); e != api.OK {
		return e
	}
	f.unwritten = false
	return api.OK
}

// bytesOf tells the bytes of a page that may be put.
func bytesOf(to api.Page) []byte {
	var s sector
	if !isZero(to) {
		b, _ := page.Encode(to)
		copy(s[:], b)
	}
	return s[:]
}

// mayBePut tells whether a page may stand in a pool.
func mayBePut(to api.Page) bool { return isZero(to) || page.May(to) }

// isZero tells whether it is the zero page.
func isZero(to api.Page) bool {
	return to.Kind == 0 && to.LSN == 0 && to.Next == 0 && len(to.Cells) == 0
}

// copied makes a page that shares nothing with another one.
func copied(from api.Page) api.Page {
	from.Cells = slices.Clone(from.Cells)
	for i := range from.Cells {
		from.Cells[i].Data = bytes.Clone(from.Cells[i].Data)
	}
	return from
}
