package pool

import (
	"bytes"
	"encoding/binary"
	"hash/crc32"
	"slices"
	"testing"

	"cadastre/api"
	"cadastre/disk"
	"cadastre/wal"
)

// The numbers that the chapters name, written out, so that nothing of the program is in what the tests want.
const (
	size        = 512
	logBytes    = 510
	leastLog    = 16
	leastFrames = 8
	mostFrames  = 256
	heapKind    = 1
	leafKind    = 2
	innerKind   = 3
)

// picker answers numbers below n that hang on a seed.
func picker(seed uint64) func(n int) int {
	x := seed*0x9E3779B97F4A7C15 + 88172645463325252
	return func(n int) int {
		x ^= x << 13
		x ^= x >> 7
		x ^= x << 17
		return int(x>>20) % n
	}
}

// noise are n bytes that hang on a seed.
func noise(seed uint64, n int) []byte {
	pick := picker(seed)
	b := make([]byte, n)
	for i := range b {
		b[i] = byte(pick(256))
	}
	return b
}

// cell is a cell in use.
func cell(data string) api.Cell { return api.Cell{Used: true, Data: []byte(data)} }

// dead is a cell that was killed.
func dead(killer uint32, data string) api.Cell {
	return api.Cell{Used: true, Killer: killer, Data: []byte(data)}
}

// pageOf is a page of a kind, with an LSN and these cells.
func pageOf(kind int, lsn uint64, cells ...api.Cell) api.Page {
	return api.Page{Kind: kind, LSN: lsn, Next: 3, Cells: cells}
}

// heap is an empty heap.
func heap(lsn uint64) api.Page { return api.Page{Kind: heapKind, LSN: lsn} }

// someOf is a page that may be, or the zero page, that hangs on a seed.
func someOf(seed uint64, lsn uint64) api.Page {
	pick := picker(seed)
	kind := pick(20)
	if kind == 0 {
		return api.Page{}
	}
	p := api.Page{Kind: 1 + kind%3, LSN: lsn, Next: uint32(pick(1<<30)) * uint32(pick(2))}
	for i := range pick(12) {
		c := api.Cell{Used: true, Data: append([]byte{byte(i + 1)}, noise(seed+uint64(i), 4+pick(25))...)}
		switch {
		case p.Kind != innerKind && pick(3) == 0:
			c.Killer = uint32(1 + pick(1<<30))
		case p.Kind == heapKind && pick(4) == 0:
			c = api.Cell{}
		}
		p.Cells = append(p.Cells, c)
	}
	if p.Kind == heapKind {
		p.Cells = append(p.Cells, cell("last"))
	}
	return p
}

// written are a page's bytes by the words of chapter 7; those of the zero page are noughts.
func written(p api.Page) []byte {
	if p.Kind == 0 {
		return make([]byte, size)
	}
	b := []byte{byte(p.Kind), byte(len(p.Cells))}
	b = binary.LittleEndian.AppendUint64(b, p.LSN)
	b = binary.LittleEndian.AppendUint32(b, p.Next)
	for _, c := range p.Cells {
		b = binary.LittleEndian.AppendUint16(b, uint16(len(c.Data)))
		if c.Used {
			b = binary.LittleEndian.AppendUint32(b, c.Killer)
			b = append(b, c.Data...)
		}
	}
	b = append(b, make([]byte, size-4-len(b))...)
	return append(binary.LittleEndian.AppendUint32(nil, crc32.Checksum(b, crc32.MakeTable(crc32.Castagnoli))), b...)
}

// alike tells whether two pages are the same, lists that are empty being nil or not.
func alike(a, b api.Page) bool {
	return a.Kind == b.Kind && a.LSN == b.LSN && a.Next == b.Next && slices.EqualFunc(a.Cells, b.Cells, func(a, b api.Cell) bool {
		return a.Used == b.Used && a.Killer == b.Killer && bytes.Equal(a.Data, b.Data)
	})
}

// isZeroPage tells whether a page is zero in all.
func isZeroPage(p api.Page) bool { return alike(p, api.Page{}) }

// place is a disk with a log and a pool on it.
type place struct {
	d *disk.Disk
	l *wal.Log
	p *Pool
}

// placeOf is a disk with an empty log of n sectors, behind it so many pages, and a pool.
func placeOf(t *testing.T, n, pages, frames int) place {
	t.Helper()
	d, e := disk.New(1 + n + pages)
	is(t, "disk.New", e, api.OK)
	is(t, "wal.Format", wal.Format(d, n), api.OK)
	return place{d: d}.anew(t, frames)
}

// anew opens the log, and makes a new pool.
func (x place) anew(t *testing.T, frames int) place {
	t.Helper()
	l, _, e := wal.Open(x.d)
	is(t, "wal.Open", e, api.OK)
	p, e := New(x.d, l, frames)
	is(t, "New", e, api.OK)
	return place{x.d, l, p}
}

// holding is a place whose pages' sectors have these bytes, that last.
func holding(t *testing.T, frames int, sectors ...[]byte) place {
	t.Helper()
	x := placeOf(t, leastLog, len(sectors), frames)
	for i, b := range sectors {
		is(t, "Write", x.d.Write(leastLog+1+i, b), api.OK)
	}
	is(t, "Sync", x.d.Sync(), api.OK)
	return x
}

// appends appends records of four bytes; the LSN of the last one.
func (x place) appends(t *testing.T, n int) uint64 {
	t.Helper()
	var last uint64
	for range n {
		lsn, e := x.l.Append(api.Record{Kind: api.RecBegin, Txn: 1})
		is(t, "Append", e, api.OK)
		last = lsn
	}
	return last
}

// is asks what a call answers.
func is(t *testing.T, what string, got, want api.Errno) {
	t.Helper()
	if got != want {
		t.Fatalf("%s: %d, want %d", what, int(got), int(want))
	}
}

// gets asks what Get tells.
func (x place) gets(t *testing.T, number uint32, want api.Page) {
	t.Helper()
	if got, e := x.p.Get(number); !alike(got, want) || e != api.OK {
		t.Fatalf("Get(%d): %+v, %d, want %+v", number, got, int(e), want)
	}
}

// getsNot asks that Get answers an error, and nothing beside it.
func (x place) getsNot(t *testing.T, number uint32, want api.Errno) {
	t.Helper()
	if got, e := x.p.Get(number); !isZeroPage(got) || e != want {
		t.Fatalf("Get(%d): %+v, %d, want %d", number, got, int(e), int(want))
	}
}

// puts puts a page.
func (x place) puts(t *testing.T, number uint32, to api.Page) {
	t.Helper()
	is(t, "Put", x.p.Put(number, to), api.OK)
}

// putsNot asks that Put answers an error.
func (x place) putsNot(t *testing.T, number uint32, to api.Page, want api.Errno) {
	t.Helper()
	if e := x.p.Put(number, to); e != want {
		t.Fatalf("Put(%d, %+v): %d, want %d", number, to, int(e), int(want))
	}
}

// dirties asks which pages are dirty.
func (x place) dirties(t *testing.T, want ...api.Dirty) {
	t.Helper()
	if got := x.p.Dirty(); !slices.Equal(got, want) {
		t.Fatalf("Dirty: %v, want %v", got, want)
	}
}

// lasts asks what lasts in a page's sector.
func (x place) lasts(t *testing.T, number int, want []byte) {
	t.Helper()
	at := (x.l.Sectors() + number) * size
	if got := x.d.Image()[at : at+size]; !bytes.Equal(got, want) {
		t.Fatalf("page %d lasts as %x, want %x", number, bytes.TrimRight(got, "\x00"), bytes.TrimRight(want, "\x00"))
	}
}

// does asks how many operations a call does.
func (x place) does(t *testing.T, what string, want api.Counts, call func()) {
	t.Helper()
	from := x.d.Counts()
	call()
	to := x.d.Counts()
	if got := (api.Counts{Reads: to.Reads - from.Reads, Writes: to.Writes - from.Writes, Syncs: to.Syncs - from.Syncs}); got != want {
		t.Fatalf("%s: %+v were done, want %+v", what, got, want)
	}
}

// framed are the pages that are in frames, rising; each in one.
func (x place) framed(t *testing.T) []uint32 {
	t.Helper()
	var all []uint32
	for number, at := range x.p.places {
		if at < 0 || at >= len(x.p.frames) || x.p.frames[at].number != number {
			t.Fatalf("page %d is said to be in frame %d of %d", number, at, len(x.p.frames))
		}
		all = append(all, number)
	}
	if len(all) != len(x.p.frames) {
		t.Fatalf("%d pages in %d frames", len(all), len(x.p.frames))
	}
	slices.Sort(all)
	return all
}
