package page

import (
	"bytes"
	"encoding/binary"
	"hash/crc32"
	"math"
	"slices"
	"testing"

	"cadastre/api"
)

// summed puts the sum ahead of the 508 bytes behind it: with noughts behind them, if there are fewer.
func summed(behind []byte) []byte {
	whole := make([]byte, max(pageBytes, 4+len(behind)))
	copy(whole[4:], behind)
	binary.LittleEndian.PutUint32(whole, crc32.Checksum(whole[4:], crc32.MakeTable(crc32.Castagnoli)))
	return whole
}

// bytesOf are a page's bytes by the chapter's words, whether it may be or not.
func bytesOf(p api.Page) []byte {
	b := []byte{byte(p.Kind), byte(len(p.Cells))}
	b = binary.LittleEndian.AppendUint64(b, p.LSN)
	b = binary.LittleEndian.AppendUint32(b, p.Next)
	for _, c := range p.Cells {
		b = binary.LittleEndian.AppendUint16(b, uint16(len(c.Data)))
		if c.Used {
			b = binary.LittleEndian.AppendUint32(b, c.Killer)
			b = append(b, c.Data...)
		}
	}
	return summed(b)
}

// pageOf is the page whose bytes these are, by the chapter's words: false, if they are none's.
func pageOf(b []byte) (api.Page, bool) {
	if len(b) != 512 || !bytes.Equal(b, summed(b[4:])) {
		return api.Page{}, false
	}
	p := api.Page{Kind: int(b[4]), LSN: binary.LittleEndian.Uint64(b[6:]), Next: binary.LittleEndian.Uint32(b[14:])}
	rest := b[18:]
	for range int(b[5]) {
		if len(rest) < 2 {
			return api.Page{}, false
		}
		n := int(binary.LittleEndian.Uint16(rest))
		rest = rest[2:]
		if n == 0 {
			p.Cells = append(p.Cells, api.Cell{})
			continue
		}
		if len(rest) < 4+n {
			return api.Page{}, false
		}
		p.Cells = append(p.Cells, api.Cell{Used: true, Killer: binary.LittleEndian.Uint32(rest), Data: rest[4 : 4+n]})
		rest = rest[4+n:]
	}
	return p, right(p) && len(bytes.TrimLeft(rest, "\x00")) == 0
}

// encodes asks what Encode answers of a page.
func encodes(t *testing.T, p api.Page, want []byte) {
	t.Helper()
	if got, e := Encode(p); e != api.OK || !bytes.Equal(got, want) {
		t.Fatalf("Encode(%s): %x, %d, want %x", shown(p), got, int(e), want)
	}
}

// decodes asks what Decode answers of bytes.
func decodes(t *testing.T, b []byte, want api.Page) {
	t.Helper()
	if got, e := Decode(b); e != api.OK || !same(got, want) {
		t.Fatalf("Decode(%x): %s, %d, want %s", b, shown(got), int(e), shown(want))
	}
}

// refuses asks that bytes are no page's.
func refuses(t *testing.T, b []byte) {
	t.Helper()
	if got, e := Decode(b); e != api.ErrForm || !none(got) {
		t.Fatalf("Decode(%x): %s, %d", b, shown(got), int(e))
	}
}

// P7.2: known bytes, written out.
func TestBytesKnown(t *testing.T) {
	for _, c := range []struct {
		p api.Page
		b []byte
	}{
		{api.Page{Kind: heapKind}, []byte{1, 0, 0, 0, 0, 0, 0, 0, 0, 0, 0, 0, 0, 0}},
		{api.Page{Kind: leafKind, LSN: 1, Next: 2}, []byte{2, 0, 1, 0, 0, 0, 0, 0, 0, 0, 2, 0, 0, 0}},
		{of(heapKind), []byte{1, 0, 8, 7, 6, 5, 4, 3, 2, 1, 13, 12, 11, 10}},
		{of(heapKind, empty, dead(0x01020304, "abc")), []byte{1, 2, 8, 7, 6, 5, 4, 3, 2, 1, 13, 12, 11, 10, 0, 0, 3, 0, 4, 3, 2, 1, 'a', 'b', 'c'}},
		{of(leafKind, cell("a"), dead(300, "b\x00")), []byte{2, 2, 8, 7, 6, 5, 4, 3, 2, 1, 13, 12, 11, 10, 1, 0, 0, 0, 0, 0, 'a', 2, 0, 44, 1, 0, 0, 'b', 0}},
		{of(innerKind, cell("x\x00\x00\x00\x05")), []byte{3, 1, 8, 7, 6, 5, 4, 3, 2, 1, 13, 12, 11, 10, 5, 0, 0, 0, 0, 0, 'x', 0, 0, 0, 5}},
	} {
		encodes(t, c.p, summed(c.b))
		decodes(t, summed(c.b), c.p)
	}
	// The sums themselves: those of an empty heap's and of an empty leaf's 508 bytes.
	b, _ := Encode(api.Page{Kind: heapKind})
	if got, want := b[:4], binary.LittleEndian.AppendUint32(nil, crcOf(append([]byte{1}, make([]byte, 507)...))); !bytes.Equal(got, want) {
		t.Errorf("the sum of an empty heap: %x, want %x", got, want)
	}
	b, _ = Encode(api.Page{Kind: leafKind})
	if got, want := b[:4], binary.LittleEndian.AppendUint32(nil, crcOf(append([]byte{2}, make([]byte, 507)...))); !bytes.Equal(got, want) {
		t.Errorf("the sum of an empty leaf: %x, want %x", got, want)
	}
}

// crcOf is layer 1's rule, bit by bit.
func crcOf(b []byte) uint32 {
	r := uint32(0xFFFFFFFF)
	for _, x := range b {
		r ^= uint32(x)
		for range 8 {
			low := r % 2
			r /= 2
			if low == 1 {
				r ^= 0x82F63B78
			}
		}
	}
	return ^r
}

// P7.2, P7.6: there and back, of pages that may be; ErrForm, and nothing beside it, of the others.
func TestEncodeAll(t *testing.T) {
	allPages(func(p api.Page) {
		if !right(p) {
			if b, e := Encode(p); e != api.ErrForm || len(b) != 0 {
				t.Fatalf("Encode(%s): %x, %d", shown(p), b, int(e))
			}
			return
		}
		encodes(t, p, bytesOf(p))
		decodes(t, bytesOf(p), p)
	})
}

// P7.2: the kind is not cut off to a byte; nor is the number of cells.
func TestEncodeNot(t *testing.T) {
	pages := []api.Page{of(heapKind, slices.Repeat([]api.Cell{cell("a")}, 61)...), of(heapKind, append(make([]api.Cell, 256), cell("a"))...), of(leafKind, cell(long('a', 181))), of(heapKind, withBytes(513-18)...)}
	for _, kind := range otherKinds() {
		pages = append(pages, of(kind), of(kind, cell("abcde")))
	}
	for _, p := range pages {
		if b, e := Encode(p); e != api.ErrForm || len(b) != 0 {
			t.Errorf("Encode(%s): %x, %d", shown(p), b, int(e))
		}
	}
}

// somePage is a page that may be.
func somePage(pick func(n int) int) api.Page {
	for {
		p := api.Page{Kind: pick(3) + 1, LSN: uint64(pick(math.MaxInt)) << pick(2), Next: uint32(pick(math.MaxUint32 + 1))}
		for range pick(62) {
			c := api.Cell{Used: p.Kind != heapKind || pick(3) > 0}
			if c.Used {
				c.Data = someBytes(pick, 1+pick(1+pick(1+pick(180))))
			}
			if c.Used && p.Kind != innerKind && pick(3) == 0 {
				c.Killer = uint32(pick(math.MaxUint32 + 1))
			}
			p.Cells = append(p.Cells, c)
		}
		if p.Kind != heapKind {
			slices.SortFunc(p.Cells, func(a, b api.Cell) int { return bytes.Compare(a.Data, b.Data) })
		}
		if right(p) {
			return p
		}
	}
}

// someBytes are n bytes, noughts among them.
func someBytes(pick func(n int) int, n int) []byte {
	b := make([]byte, n)
	for i := range b {
		b[i] = byte(pick(4) * pick(86))
	}
	return b
}

// P7.2, P7.6: there and back, of pages with many cells; pages that differ have bytes that differ.
func TestThereAndBack(t *testing.T) {
	pick := picker(1)
	seen := map[string]api.Page{}
	for range 4000 {
		p := somePage(pick)
		b, e := Encode(p)
		if e != api.OK || len(b) != pageBytes || !bytes.Equal(b, bytesOf(p)) {
			t.Fatalf("Encode(%s): %x, %d", shown(p), b, int(e))
		}
		decodes(t, b, p)
		if q, ok := seen[string(b)]; ok && !same(p, q) {
			t.Fatalf("%s and %s have the same bytes", shown(p), shown(q))
		}
		seen[string(b)] = p
	}
}

// P7.2, P7.6: each field, one more or one less, is seen in the bytes.
func TestFieldsDiffer(t *testing.T) {
	p := of(leafKind, cell("aaaaa"), cell("bbbbb"))
	pages := []api.Page{p, of(heapKind, p.Cells...), of(innerKind, p.Cells...), of(leafKind, p.Cells[:1]...), of(leafKind, p.Cells[1:]...), of(leafKind), of(leafKind, cell("aaaaab"), cell("bbbb"))}
	for k := range 64 {
		q := p
		q.LSN ^= 1 << k
		pages = append(pages, q)
	}
	for k := range 32 {
		q := p
		q.Next ^= 1 << k
		pages = append(pages, q, of(leafKind, dead(1<<k, "aaaaa"), cell("bbbbb")), of(leafKind, cell("aaaaa"), dead(1<<k, "bbbbb")))
	}
	seen := map[string]bool{}
	for _, q := range pages {
		b, e := Encode(q)
		if e != api.OK {
			t.Fatalf("Encode(%s): %d", shown(q), int(e))
		}
		if seen[string(b)] {
			t.Fatalf("%+v has the bytes of another one", q)
		}
		seen[string(b)] = true
		decodes(t, b, q)
	}
}

// P7.2: bytes of another length are none, though they begin as a page's, and have their sum.
func TestDecodeLengths(t *testing.T) {
	whole := bytesOf(of(heapKind, cell("a")))
	refuses(t, nil)
	for n := range 1100 {
		b := make([]byte, n)
		copy(b, whole)
		if n != pageBytes {
			refuses(t, b)
		}
		if n >= 4 && n != pageBytes {
			binary.LittleEndian.PutUint32(b, crcOf(b[4:]))
			refuses(t, b)
		}
	}
	refuses(t, append(whole, 0))
	refuses(t, append(whole, whole...))
	refuses(t, whole[:511])
	decodes(t, whole, of(heapKind, cell("a")))
}

// P7.2: 512 bytes with their sum that are no page's.
func TestDecodeNone(t *testing.T) {
	head := func(kind, cells byte, more ...byte) []byte {
		return summed(append(append([]byte{kind, cells}, make([]byte, 12)...), more...))
	}
	used := func(n int) []byte {
		return append([]byte{byte(n), byte(n >> 8), 0, 0, 0, 0}, bytes.Repeat([]byte{'a'}, n)...)
	}
	refuses(t, make([]byte, pageBytes))
	refuses(t, summed(nil))
	for kind := range 256 {
		if kind < 1 || kind > 3 {
			refuses(t, head(byte(kind), 0))
			refuses(t, head(byte(kind), 1, used(7)...))
		}
	}
	for cells := range 256 {
		// A number of cells of which the bytes have none, or more: those that are there are none in use, or noughts behind the last.
		if cells > 0 {
			refuses(t, head(leafKind, byte(cells)))
			refuses(t, head(heapKind, byte(cells)))
			refuses(t, head(innerKind, byte(cells)))
		}
		if cells != 1 {
			refuses(t, head(leafKind, byte(cells), used(7)...))
			refuses(t, head(heapKind, byte(cells), used(7)...))
		}
	}
	decodes(t, head(leafKind, 1, used(7)...), api.Page{Kind: leafKind, Cells: []api.Cell{cell("aaaaaaa")}})
	decodes(t, head(heapKind, 1, used(180)...), api.Page{Kind: heapKind, Cells: []api.Cell{cell(long('a', 180))}})
	for _, n := range []int{181, 200, 256, 400, 488} {
		refuses(t, head(heapKind, 1, used(n)...))
		refuses(t, head(leafKind, 1, used(n)...))
	}
	for _, n := range []int{400, 489, 490, 512, 1 << 15, 1<<16 - 1} {
		refuses(t, head(heapKind, 1, byte(n), byte(n>>8), 0, 0, 0, 0, 'a'))
	}
	refuses(t, head(heapKind, 1, 0, 0))
	refuses(t, head(heapKind, 2, append(used(3), 0, 0)...))
	refuses(t, head(leafKind, 2, append(used(3), used(3)...)...))
	refuses(t, head(leafKind, 2, append(used(3), used(2)...)...))
	refuses(t, head(innerKind, 1, used(4)...))
	refuses(t, head(innerKind, 2, append(used(5), used(5)...)...))
	decodes(t, head(innerKind, 2, append(used(5), used(6)...)...), api.Page{Kind: innerKind, Cells: []api.Cell{cell("aaaaa"), cell("aaaaaa")}})
	killed := used(5)
	killed[2] = 1
	refuses(t, head(innerKind, 1, killed...))
	decodes(t, head(leafKind, 1, killed...), api.Page{Kind: leafKind, Cells: []api.Cell{dead(1, "aaaaa")}})
}

// P7.2: behind the cells there are noughts alone, up to the end.
func TestDecodeNoughts(t *testing.T) {
	for _, p := range []api.Page{of(heapKind), of(leafKind, cell("a")), of(innerKind, cell("abcde")), of(heapKind, withBytes(511-18)...)} {
		whole := bytesOf(p)
		for at := Size(p); at < pageBytes; at++ {
			for _, x := range []byte{1, 2, 0x80, 0xFF} {
				b := bytes.Clone(whole)
				b[at] = x
				refuses(t, summed(b[4:]))
			}
		}
		decodes(t, whole, p)
	}
	full := of(heapKind, withBytes(512-18)...)
	decodes(t, bytesOf(full), full)
}

// P7.2: the sum is the first four bytes, the lowest first, of all that stand behind it.
func TestDecodeSum(t *testing.T) {
	whole := bytesOf(of(heapKind, cell("abc")))
	for k := range 32 {
		b := bytes.Clone(whole)
		b[k/8] ^= 1 << (k % 8)
		refuses(t, b)
	}
	b := bytes.Clone(whole)
	slices.Reverse(b[:4])
	refuses(t, b)
	behind := append(bytes.Clone(whole[4:]), whole[:4]...)
	refuses(t, behind)
}

// P7.6: with one byte changed, wherever and to whatever, they are none's.
func TestChangedByte(t *testing.T) {
	for _, p := range []api.Page{of(heapKind, empty, dead(3, "abc"), cell(long('x', 100))), of(innerKind, children(20, 5)...)} {
		b := bytesOf(p)
		for at := range b {
			for x := 1; x < 256; x++ {
				b[at] ^= byte(x)
				refuses(t, b)
				b[at] ^= byte(x)
			}
		}
		decodes(t, b, p)
	}
}

// P7.2, P7.6: bytes that were changed and have their sum again: read as the chapter says, and written as they were.
func TestDecodeChanged(t *testing.T) {
	pick := picker(2)
	read := 0
	for range 20000 {
		b := bytesOf(somePage(pick))
		for range pick(3) + 1 {
			at := 4 + pick(min(508, 14+pick(40)))
			switch pick(3) {
			case 0:
				b[at] = byte(pick(256))
			case 1:
				b[at] ^= 1 << pick(8)
			default:
				b[at] = byte(pick(4))
			}
		}
		b = summed(b[4:])
		want, ok := pageOf(b)
		if !ok {
			refuses(t, b)
			continue
		}
		read++
		decodes(t, b, want)
		encodes(t, want, b)
	}
	if read < 2000 {
		t.Errorf("but %d of them are a page's: not a test", read)
	}
}
