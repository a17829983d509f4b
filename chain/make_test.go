package chain

import (
	"bytes"
	"fmt"
	"slices"
	"testing"

	"cadastre/api"
)

// The numbers that the chapter names, written out, so that nothing of the program is in what the tests want.
const (
	heapKind  = 1
	leafKind  = 2
	innerKind = 3

	opPut  = 1
	opKill = 2
	opWake = 3
	opFree = 4

	recBegin  = 1
	recDo     = 2
	recUndo   = 3
	recShape  = 4
	recCommit = 5
	recAbort  = 6
	recEnd    = 7
	recCheck  = 8

	errArg  = api.Errno(1)
	errForm = api.Errno(5)
	errNone = api.Errno(6)

	greatest = 1<<32 - 1 // of all numbers of transactions, of pages
)

// picker answers numbers below n that hang on a seed.
func picker(seed uint64) func(n int) int {
	x := seed*0x9E3779B97F4A7C15 + 88172645463325252
	return func(n int) int {
		x ^= x << 13
		x ^= x >> 7
		x ^= x << 17
		return int(x>>20) % n
	}
}

// The operations: of a heap's cell by its place, of a leaf's by its bytes.
func put(slot int, data string) api.Op {
	return api.Op{Kind: opPut, Slot: slot, Data: []byte(data)}
}
func kill(slot int, txn uint32) api.Op { return api.Op{Kind: opKill, Slot: slot, Txn: txn} }
func wake(slot int) api.Op             { return api.Op{Kind: opWake, Slot: slot} }
func free(slot int) api.Op             { return api.Op{Kind: opFree, Slot: slot} }
func putOf(data string) api.Op         { return api.Op{Kind: opPut, Data: []byte(data)} }
func killOf(data string, txn uint32) api.Op {
	return api.Op{Kind: opKill, Txn: txn, Data: []byte(data)}
}
func freeOf(data string) api.Op { return api.Op{Kind: opFree, Data: []byte(data)} }

// The records.
func began(lsn uint64, txn uint32) api.Record { return api.Record{Kind: recBegin, LSN: lsn, Txn: txn} }
func did(lsn uint64, txn uint32, prev uint64, page uint32, op api.Op) api.Record {
	return api.Record{Kind: recDo, LSN: lsn, Txn: txn, Prev: prev, Page: page, Op: op}
}
func undid(lsn uint64, txn uint32, prev, undo uint64, page uint32, op api.Op) api.Record {
	return api.Record{Kind: recUndo, LSN: lsn, Txn: txn, Prev: prev, Undo: undo, Page: page, Op: op}
}
func shaped(lsn uint64, images ...api.Image) api.Record {
	return api.Record{Kind: recShape, LSN: lsn, Images: images}
}
func committed(lsn uint64, txn uint32, prev uint64) api.Record {
	return api.Record{Kind: recCommit, LSN: lsn, Txn: txn, Prev: prev}
}
func aborted(lsn uint64, txn uint32, prev uint64) api.Record {
	return api.Record{Kind: recAbort, LSN: lsn, Txn: txn, Prev: prev}
}
func gone(lsn uint64, txn uint32, prev uint64) api.Record {
	return api.Record{Kind: recEnd, LSN: lsn, Txn: txn, Prev: prev}
}
func checked(lsn uint64, lives []api.Live, dirty []api.Dirty, next uint32) api.Record {
	return api.Record{Kind: recCheck, LSN: lsn, Lives: lives, Dirty: dirty, Next: next}
}

// inTree is a Do, an Undo in a tree.
func inTree(r api.Record, root uint32) api.Record {
	r.Root = root
	return r
}

// lost is a live transaction that is to be undone, kept one that is not.
func lost(txn uint32, last, undo uint64) api.Live {
	return api.Live{Txn: txn, Last: last, Undo: undo, Lost: true}
}
func kept(txn uint32, last, undo uint64) api.Live {
	return api.Live{Txn: txn, Last: last, Undo: undo}
}

// The pages and their cells; a text for a cell in use, dead for one that was killed, unused for one that is not in use.
func cell(data string) api.Cell { return api.Cell{Used: true, Data: []byte(data)} }
func dead(data string, killer uint32) api.Cell {
	return api.Cell{Used: true, Killer: killer, Data: []byte(data)}
}
func pageOf(kind int, lsn uint64, cells ...api.Cell) api.Page {
	return api.Page{Kind: kind, LSN: lsn, Cells: cells}
}
func image(number uint32, to api.Page) api.Image { return api.Image{Page: number, To: to} }

var unused = api.Cell{}

// samePage, sameRecord tell whether two are alike; a list that is empty may be nil.
func samePage(p, q api.Page) bool {
	return p.Kind == q.Kind && p.LSN == q.LSN && p.Next == q.Next && slices.EqualFunc(p.Cells, q.Cells, func(a, b api.Cell) bool {
		return a.Used == b.Used && a.Killer == b.Killer && bytes.Equal(a.Data, b.Data)
	})
}

func sameImages(l, m []api.Image) bool {
	return slices.EqualFunc(l, m, func(i, j api.Image) bool { return i.Page == j.Page && samePage(i.To, j.To) })
}

func sameRecord(r, q api.Record) bool {
	return r.Kind == q.Kind && r.LSN == q.LSN && r.Txn == q.Txn && r.Prev == q.Prev && r.Undo == q.Undo && r.Page == q.Page && r.Root == q.Root && r.Next == q.Next &&
		r.Op.Kind == q.Op.Kind && r.Op.Slot == q.Op.Slot && r.Op.Txn == q.Op.Txn && bytes.Equal(r.Op.Data, q.Op.Data) &&
		sameImages(r.Images, q.Images) && slices.Equal(r.Lives, q.Lives) && slices.Equal(r.Dirty, q.Dirty)
}

// The twins are alike, and share nothing.
func twinPage(p api.Page) api.Page {
	cells := make([]api.Cell, len(p.Cells))
	for i, c := range p.Cells {
		cells[i] = api.Cell{Used: c.Used, Killer: c.Killer, Data: append([]byte(nil), c.Data...)}
	}
	p.Cells = cells
	return p
}

func twinImages(l []api.Image) []api.Image {
	all := make([]api.Image, len(l))
	for i := range l {
		all[i] = image(l[i].Page, twinPage(l[i].To))
	}
	return all
}

func twinRecords(l []api.Record) []api.Record {
	all := make([]api.Record, len(l))
	for i, r := range l {
		r.Op.Data = append([]byte(nil), r.Op.Data...)
		r.Images = twinImages(r.Images)
		r.Lives, r.Dirty = append([]api.Live(nil), r.Lives...), append([]api.Dirty(nil), r.Dirty...)
		all[i] = r
	}
	return all
}

// answer is what Analyse answers.
type answer struct {
	lives []api.Live
	dirty []api.Dirty
	next  uint32
	e     api.Errno
}

func (a answer) String() string {
	return fmt.Sprintf("%+v %+v %d %d", a.lives, a.dirty, a.next, int(a.e))
}

func (a answer) same(b answer) bool {
	return slices.Equal(a.lives, b.lives) && slices.Equal(a.dirty, b.dirty) && a.next == b.next && a.e == b.e
}

func analyse(records []api.Record, check uint64) answer {
	lives, dirty, next, e := Analyse(records, check)
	return answer{lives, dirty, next, e}
}

// shown are records in few words.
func shown(records []api.Record) string {
	s := ""
	for _, r := range records {
		s += fmt.Sprintf("\n%+v", r)
	}
	if len(s) > 6000 {
		return s[:6000] + "..."
	}
	return s
}

// tells asks what Analyse answers.
func tells(t *testing.T, records []api.Record, check uint64, want answer) {
	t.Helper()
	if got := analyse(records, check); !got.same(want) {
		t.Fatalf("Analyse(%s\n, %d): %s, want %s", shown(records), check, got, want)
	}
}

// redoes asks what Redo answers.
func redoes(t *testing.T, pages []api.Image, records []api.Record, from uint64, want ...api.Image) {
	t.Helper()
	if got, e := Redo(pages, records, from); e != api.OK || !sameImages(got, want) {
		t.Fatalf("Redo(%+v, %s\n, %d): %+v, %d, want %+v", pages, shown(records), from, got, int(e), want)
	}
}

// redoesNot asks that Redo answers an error, and nothing beside it.
func redoesNot(t *testing.T, pages []api.Image, records []api.Record, from uint64, want api.Errno) {
	t.Helper()
	if got, e := Redo(pages, records, from); e != want || len(got) > 0 {
		t.Fatalf("Redo(%+v, %s\n, %d): %+v, %d, want %d", pages, shown(records), from, got, int(e), int(want))
	}
}
