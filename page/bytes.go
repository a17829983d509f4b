package page

import (
	"cadastre/api"
	"cadastre/code"
	"cadastre/sum"
)

// sumBytes is how many bytes of a page its sum has, ahead of all that it is the sum of.
const sumBytes = 4

// Encode tells its bytes.
func Encode(p api.Page) ([]byte, api.Errno) {
	if !May(p) {
		return nil, api.ErrForm
	}
	summed := writePage(p)
	w := code.NewWriter()
	w.U32(sum.Of(summed))
	w.Raw(summed)
	return w.Bytes(), api.OK
}

// writePage tells what stands behind the sum, of a page that may be.
func writePage(p api.Page) []byte {
	w := code.NewWriter()
	w.U8(uint8(p.Kind))
	w.U8(uint8(len(p.Cells)))
	w.U64(p.LSN)
	w.U32(p.Next)
	for _, c := range p.Cells {
		writeCell(w, c)
	}
	w.Raw(make([]byte, api.PageSize-sumBytes-w.Len()))
	return w.Bytes()
}

// writeCell writes a cell that may be.
func writeCell(w *code.Writer, c api.Cell) {
	w.U16(uint16(len(c.Data)))
	if c.Used {
		w.U32(c.Killer)
		w.Raw(c.Data)
	}
}

// Decode tells the page whose bytes these are.
func Decode(b []byte) (api.Page, api.Errno) {
	if len(b) != api.PageSize {
		return api.Page{}, api.ErrForm
	}
	r := code.NewReader(b)
	if r.U32() != sum.Of(b[sumBytes:]) {
		return api.Page{}, api.ErrForm
	}
	p := readPage(r)
	if !areNoughts(r.Raw(r.Left())) || r.End() != api.OK || !May(p) {
		return api.Page{}, api.ErrForm
	}
	return p, api.OK
}

// readPage reads what stands behind the sum; where it ends too soon, the reader has the fault.
func readPage(r *code.Reader) api.Page {
	p := api.Page{Kind: int(r.U8())}
	cells := r.U8()
	p.LSN = r.U64()
	p.Next = r.U32()
	for range cells {
		p.Cells = append(p.Cells, readCell(r))
	}
	return p
}

// readCell reads a cell.
func readCell(r *code.Reader) api.Cell {
	n := int(r.U16())
	if n == 0 {
		return api.Cell{}
	}
	c := api.Cell{Used: true, Killer: r.U32()}
	c.Data = r.Raw(n)
	return c
}

// areNoughts tells whether there is nothing but noughts.
func areNoughts(b []byte) bool {
	for _, x := range b {
		if x != 0 {
			return false
		}
	}
	return true
}
