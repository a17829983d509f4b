package kernel

import (
	"bytes"
	"fmt"
	"runtime/debug"
	"slices"
	"strings"
	"testing"

	"cadastre/api"
	"cadastre/disk"
	"cadastre/page"
)

// The numbers that the chapters name, written out, so that nothing of the program is in what the tests want.
const (
	size        = 512
	logBytes    = 510
	leastLog    = 16
	leastFrames = 8
	mostFrames  = 256
	mostTxns    = 16
	mostCells   = 60
	mostRecord  = 16384

	heapKind  = 1
	leafKind  = 2
	innerKind = 3

	opPut  = 1
	opKill = 2
	opWake = 3
	opFree = 4

	recBegin  = 1
	recDo     = 2
	recUndo   = 3
	recShape  = 4
	recCommit = 5
	recAbort  = 6
	recEnd    = 7
	recCheck  = 8

	errArg   = api.Errno(1)
	errRange = api.Errno(2)
	errLong  = api.Errno(3)
	errFull  = api.Errno(4)
	errForm  = api.Errno(5)
	errNone  = api.Errno(6)
	errThere = api.Errno(7)
	errDark  = api.Errno(8)
	errTxn   = api.Errno(140)

	greatest = 1<<32 - 1 // of all numbers of transactions, of pages
)

// TestMain lets memory be gathered in seldomer: the tests make many small things, and most of their time went there.
func TestMain(m *testing.M) {
	debug.SetGCPercent(400)
	m.Run()
}

// picker answers numbers below n that hang on a seed.
func picker(seed uint64) func(n int) int {
	x := seed*0x9E3779B97F4A7C15 + 88172645463325252
	return func(n int) int {
		x ^= x << 13
		x ^= x >> 7
		x ^= x << 17
		return int(x>>20) % n
	}
}

// The operations: of a heap's cell by its place, of a leaf's by its bytes.
func put(slot int, data string) api.Op {
	return api.Op{Kind: opPut, Slot: slot, Data: []byte(data)}
}
func kill(slot int, txn uint32) api.Op { return api.Op{Kind: opKill, Slot: slot, Txn: txn} }
func putOf(data string) api.Op         { return api.Op{Kind: opPut, Data: []byte(data)} }
func killOf(data string, txn uint32) api.Op {
	return api.Op{Kind: opKill, Txn: txn, Data: []byte(data)}
}

// cell is a cell in use; dead one that was killed.
func cell(data string) api.Cell { return api.Cell{Used: true, Data: []byte(data)} }
func dead(killer uint32, data string) api.Cell {
	return api.Cell{Used: true, Killer: killer, Data: []byte(data)}
}

// childCell is a cell of an inner page.
func childCell(entry string, child uint32) api.Cell {
	return cell(entry + string([]byte{byte(child >> 24), byte(child >> 16), byte(child >> 8), byte(child)}))
}

// The pages, with these cells.
func heap(cells ...api.Cell) api.Page { return api.Page{Kind: heapKind, Cells: cells} }
func leaf(next uint32, cells ...api.Cell) api.Page {
	return api.Page{Kind: leafKind, Next: next, Cells: cells}
}
func inner(left uint32, cells ...api.Cell) api.Page {
	return api.Page{Kind: innerKind, Next: left, Cells: cells}
}

func image(number uint32, to api.Page) api.Image { return api.Image{Page: number, To: to} }

// twinPage is a page that is alike, and shares nothing.
func twinPage(p api.Page) api.Page {
	cells := []api.Cell{}
	for _, c := range p.Cells {
		c.Data = append([]byte{}, c.Data...)
		cells = append(cells, c)
	}
	p.Cells = cells
	return p
}

func twinPages(l []api.Page) []api.Page {
	var all []api.Page
	for _, p := range l {
		all = append(all, twinPage(p))
	}
	return all
}

// lsnOf is a page with another LSN.
func lsnOf(p api.Page, lsn uint64) api.Page {
	p.LSN = lsn
	return p
}

// alike tells whether two pages are the same, lists that are empty being nil or not.
func alike(a, b api.Page) bool { return a.LSN == b.LSN && alikeButLSN(a, b) }

// alikeButLSN tells whether their Kind, Next and cells are the same.
func alikeButLSN(a, b api.Page) bool {
	return a.Kind == b.Kind && a.Next == b.Next && slices.EqualFunc(a.Cells, b.Cells, func(a, b api.Cell) bool {
		return a.Used == b.Used && a.Killer == b.Killer && bytes.Equal(a.Data, b.Data)
	})
}

// shown is a page as a text.
func shown(p api.Page) string {
	s := fmt.Sprintf("%d@%d>%d[", p.Kind, p.LSN, p.Next)
	for _, c := range p.Cells {
		s += fmt.Sprintf(" %v %d %.12q", c.Used, c.Killer, c.Data)
	}
	return s + " ]"
}

// shownPages are pages as a text, those that are zero aside.
func shownPages(l []api.Page) string {
	var s strings.Builder
	for number, p := range l {
		if p.Kind != 0 {
			fmt.Fprintf(&s, "\n  %d: %s", number, shown(p))
		}
	}
	return s.String()
}

// alikeRecord tells whether two records are the same.
func alikeRecord(a, b api.Record) bool {
	return a.Kind == b.Kind && a.LSN == b.LSN && a.Txn == b.Txn && a.Prev == b.Prev && a.Undo == b.Undo && a.Page == b.Page && a.Root == b.Root && a.Next == b.Next &&
		a.Op.Kind == b.Op.Kind && a.Op.Slot == b.Op.Slot && a.Op.Txn == b.Op.Txn && bytes.Equal(a.Op.Data, b.Op.Data) &&
		slices.EqualFunc(a.Images, b.Images, func(a, b api.Image) bool { return a.Page == b.Page && alike(a.To, b.To) }) &&
		slices.Equal(a.Lives, b.Lives) && slices.Equal(a.Dirty, b.Dirty)
}

// is asks what a call answers.
func is(t *testing.T, what string, got, want api.Errno) {
	t.Helper()
	if got != want {
		t.Fatalf("%s: %d, want %d", what, int(got), int(want))
	}
}

// formatted is a disk with an empty kernel: a log of n sectors, and so many pages.
func formatted(t *testing.T, n, pages int) *disk.Disk {
	t.Helper()
	d, e := disk.New(1 + n + pages)
	is(t, "disk.New", e, api.OK)
	is(t, "Format", Format(d, n), api.OK)
	return d
}

// opened is the kernel of a disk.
func opened(t *testing.T, d *disk.Disk, frames int) *Kernel {
	t.Helper()
	k, e := Open(d, frames)
	is(t, "Open", e, api.OK)
	return k
}

// begins begins a transaction.
func begins(t *testing.T, k *Kernel) uint32 {
	t.Helper()
	txn, e := k.Begin()
	is(t, "Begin", e, api.OK)
	return txn
}

// does does an operation of a heap.
func does(t *testing.T, k *Kernel, txn, number uint32, op api.Op) {
	t.Helper()
	is(t, fmt.Sprintf("Do(%d, %d, 0, %v)", txn, number, op), k.Do(txn, number, 0, op), api.OK)
}

// shapes builds pages.
func shapes(t *testing.T, k *Kernel, images ...api.Image) {
	t.Helper()
	is(t, "Shape", k.Shape(images), api.OK)
}

// reads asks what a page is, but for its LSN.
func reads(t *testing.T, k *Kernel, number uint32, want api.Page) {
	t.Helper()
	if got, e := k.Read(number); !alikeButLSN(got, want) || e != api.OK {
		t.Fatalf("Read(%d): %s, %d, want %s", number, shown(got), int(e), shown(want))
	}
}

// allPages are all pages as Read tells them, the place 0 a zero page.
func allPages(t *testing.T, k *Kernel) []api.Page {
	t.Helper()
	all := []api.Page{{}}
	for number := uint32(1); number <= uint32(k.Pages()); number++ {
		p, e := k.Read(number)
		is(t, "Read", e, api.OK)
		all = append(all, p)
	}
	return all
}

// sameButLSNs tells whether pages are the same, but for their LSNs.
func sameButLSNs(a, b []api.Page) bool { return slices.EqualFunc(a, b, alikeButLSN) }

// written are a page's bytes, or noughts of the zero page.
func written(t *testing.T, p api.Page) []byte {
	t.Helper()
	if alike(p, api.Page{}) {
		return make([]byte, size)
	}
	b, e := page.Encode(p)
	is(t, "page.Encode", e, api.OK)
	return b
}
