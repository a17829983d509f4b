package kernel

import (
	"fmt"
	"maps"
	"slices"
	"testing"

	"cadastre/api"
	"cadastre/disk"
	"cadastre/node"
	"cadastre/page"
	"cadastre/record"
	"cadastre/wal"
)

// call is a call of a kernel; what its kind does not use is zero.
type call struct {
	kind   byte // Begin, Do, Shape, bacK, Commit, Abort, checK (x), Use, Fresh, Release
	txn    uint32
	page   uint32
	root   uint32
	op     api.Op
	images []api.Image
	point  uint64
	n      int
	pages  []uint32
}

func (c call) String() string {
	switch c.kind {
	case 'b':
		return "Begin()"
	case 'd':
		return fmt.Sprintf("Do(%d, %d, %d, {%d %d %d %.12q of %d})", c.txn, c.page, c.root, c.op.Kind, c.op.Slot, c.op.Txn, c.op.Data, len(c.op.Data))
	case 's':
		s := "Shape("
		for _, i := range c.images {
			s += fmt.Sprintf("%d %s ", i.Page, shown(i.To))
		}
		return s + ")"
	case 'k':
		return fmt.Sprintf("Back(%d, %d)", c.txn, c.point)
	case 'c':
		return fmt.Sprintf("Commit(%d)", c.txn)
	case 'a':
		return fmt.Sprintf("Abort(%d)", c.txn)
	case 'x':
		return "Check()"
	case 'u':
		return fmt.Sprintf("Use(%d)", c.pages)
	case 'f':
		return fmt.Sprintf("Fresh(%d)", c.n)
	}
	return fmt.Sprintf("Release(%d)", c.pages)
}

// answer is what a call answers.
type answer struct {
	e     api.Errno
	txn   uint32
	pages []uint32
}

func (a answer) same(b answer) bool {
	return a.e == b.e && a.txn == b.txn && slices.Equal(a.pages, b.pages)
}

// call does a call of a kernel.
func (k *Kernel) call(c call) answer {
	switch c.kind {
	case 'b':
		txn, e := k.Begin()
		return answer{e: e, txn: txn}
	case 'd':
		return answer{e: k.Do(c.txn, c.page, c.root, c.op)}
	case 's':
		return answer{e: k.Shape(c.images)}
	case 'k':
		return answer{e: k.Back(c.txn, c.point)}
	case 'c':
		return answer{e: k.Commit(c.txn)}
	case 'a':
		return answer{e: k.Abort(c.txn)}
	case 'x':
		return answer{e: k.Check()}
	case 'u':
		return answer{e: k.Use(c.pages)}
	case 'f':
		pages, e := k.Fresh(c.n)
		return answer{e: e, pages: pages}
	}
	k.Release(c.pages)
	return answer{}
}

// mdeed is what a transaction did, and may undo.
type mdeed struct {
	lsn  uint64
	page uint32
	root uint32
	op   api.Op
}

// mtxn is a live transaction.
type mtxn struct {
	last  uint64
	deeds []mdeed
}

func (x *mtxn) point() uint64 {
	if len(x.deeds) == 0 {
		return 0
	}
	return x.deeds[len(x.deeds)-1].lsn
}

// mirror is a kernel by the chapter's words, written anew: all of it in memory.
type mirror struct {
	sectors int        // of the log
	pages   []api.Page // by number
	base    uint64
	end     uint64
	mark    uint64
	kept    uint32
	records []api.Record // since base
	txns    map[uint32]mtxn
	next    uint32
	used    map[uint32]bool
}

// mirrorOf is one of a formatted disk.
func mirrorOf(sectors, pages int) *mirror {
	return &mirror{sectors: sectors, pages: make([]api.Page, 1+pages), base: 1, end: 1, kept: 1, txns: map[uint32]mtxn{}, next: 1, used: map[uint32]bool{}}
}

// twin is one that is alike; they share what neither ever changes.
func (m *mirror) twin() *mirror {
	n := *m
	n.pages = slices.Clone(m.pages)
	n.records = slices.Clip(m.records)
	n.txns = map[uint32]mtxn{}
	for number, x := range m.txns {
		n.txns[number] = mtxn{x.last, slices.Clone(x.deeds)}
	}
	n.used = maps.Clone(m.used)
	return &n
}

func (m *mirror) room() int { return m.sectors*logBytes - int(m.end-m.base) }

// keeps is what is kept of the log's Room for the end.
func (m *mirror) keeps() int {
	n := 0
	for _, x := range m.txns {
		n += 40
		for _, d := range x.deeds {
			n += 48 + len(d.op.Data)
		}
	}
	return n
}

func (m *mirror) get(number uint32) (api.Page, api.Errno) {
	if number < 1 || int(number) >= len(m.pages) {
		return api.Page{}, errRange
	}
	return m.pages[number], api.OK
}

// bytesOf are how many bytes a record has.
func bytesOf(r api.Record) int {
	b, e := record.Encode(r)
	if e != api.OK {
		panic(fmt.Sprintf("no record: %+v", r))
	}
	return len(b)
}

// append appends a record.
func (m *mirror) append(r api.Record) uint64 {
	n := bytesOf(r)
	r.LSN = m.end
	if r.Op.Data != nil {
		r.Op.Data = slices.Clone(r.Op.Data)
	}
	m.records = append(m.records, r)
	m.end += uint64(n)
	return r.LSN
}

// appendOf appends a record of a transaction.
func (m *mirror) appendOf(txn uint32, r api.Record) uint64 {
	x := m.txns[txn]
	r.Txn, r.Prev = txn, x.last
	x.last = m.append(r)
	m.txns[txn] = x
	return x.last
}

func (m *mirror) become(number uint32, to api.Page, lsn uint64) {
	to = twinPage(to)
	to.LSN = lsn
	m.pages[number] = to
}

func kindFor(root uint32) int {
	if root == 0 {
		return heapKind
	}
	return leafKind
}

func (m *mirror) begin() answer {
	r := api.Record{Kind: recBegin, Txn: m.next}
	if len(m.txns) >= mostTxns || m.next == greatest || m.room() < bytesOf(r)+40+m.keeps() {
		return answer{e: errFull}
	}
	m.txns[m.next] = mtxn{last: m.append(r)}
	m.next++
	return answer{txn: m.next - 1}
}

// wordsLet tells whether the words let a transaction do that.
func wordsLet(c call) bool {
	if c.op.Kind != opPut && c.op.Kind != opKill || !page.Right(kindFor(c.root), c.op) {
		return false
	}
	if c.op.Slot < 0 || c.op.Slot > mostCells-1 {
		return false
	}
	return c.op.Kind == opPut || c.op.Txn == c.txn
}

func (m *mirror) do(c call) api.Errno {
	x, there := m.txns[c.txn]
	if !there {
		return errTxn
	}
	if !wordsLet(c) {
		return errArg
	}
	if c.root != 0 {
		path, e := node.Path(m.get, c.root, string(c.op.Data))
		if e != api.OK {
			return e
		}
		if path[len(path)-1] != c.page {
			return errArg
		}
	}
	p, e := m.get(c.page)
	if e != api.OK {
		return e
	}
	if p.Kind != kindFor(c.root) {
		return errForm
	}
	to, e := page.Do(p, c.op)
	if e != api.OK {
		return e
	}
	r := api.Record{Kind: recDo, Page: c.page, Root: c.root, Op: c.op, Txn: c.txn, Prev: x.last}
	if m.room() < bytesOf(r)+m.keeps()+48+len(c.op.Data) {
		return errFull
	}
	lsn := m.appendOf(c.txn, r)
	x = m.txns[c.txn]
	op := c.op
	op.Data = slices.Clone(op.Data)
	x.deeds = append(x.deeds, mdeed{lsn, c.page, c.root, op})
	m.txns[c.txn] = x
	m.become(c.page, to, lsn)
	return api.OK
}

func (m *mirror) shape(c call) api.Errno {
	last := uint32(0)
	for _, i := range c.images {
		if i.Page <= last {
			return errArg
		}
		last = i.Page
	}
	if len(c.images) == 0 {
		return errArg
	}
	for _, i := range c.images {
		if int(i.Page) >= len(m.pages) {
			return errRange
		}
	}
	r := api.Record{Kind: recShape}
	for _, i := range c.images {
		if !page.May(i.To) {
			return errForm
		}
		r.Images = append(r.Images, image(i.Page, lsnOf(twinPage(i.To), 0)))
	}
	if _, e := record.Encode(r); e != api.OK {
		return errLong
	}
	if m.room() < bytesOf(r)+m.keeps() {
		return errFull
	}
	lsn := m.append(r)
	for _, i := range r.Images {
		m.become(i.Page, i.To, lsn)
	}
	return api.OK
}

// undo takes a transaction's last deed back.
func (m *mirror) undo(txn uint32) api.Errno {
	x := m.txns[txn]
	d := x.deeds[len(x.deeds)-1]
	number := d.page
	if d.root != 0 {
		path, e := node.Path(m.get, d.root, string(d.op.Data))
		if e != api.OK {
			return errForm
		}
		number = path[len(path)-1]
	}
	back, e := page.Undo(kindFor(d.root), d.op)
	if e != api.OK {
		return errForm
	}
	p, e := m.get(number)
	if e != api.OK || p.Kind != kindFor(d.root) {
		return errForm
	}
	to, e := page.Do(p, back)
	if e != api.OK {
		return errForm
	}
	x.deeds = x.deeds[:len(x.deeds)-1]
	m.txns[txn] = x
	lsn := m.appendOf(txn, api.Record{Kind: recUndo, Undo: x.point(), Page: number, Root: d.root, Op: back})
	m.become(number, to, lsn)
	return api.OK
}

// undoTo takes back what is behind a point; where that can't be, the mirror is spoilt.
func (m *mirror) undoTo(txn uint32, point uint64) api.Errno {
	for pointOf(m.txns[txn]) > point {
		if e := m.undo(txn); e != api.OK {
			return e
		}
	}
	return api.OK
}

func pointOf(x mtxn) uint64 { return x.point() }

func (m *mirror) back(c call) api.Errno {
	x, there := m.txns[c.txn]
	if !there {
		return errTxn
	}
	if c.point != 0 && !slices.ContainsFunc(x.deeds, func(d mdeed) bool { return d.lsn == c.point }) {
		return errArg
	}
	was := m.twin()
	if e := m.undoTo(c.txn, c.point); e != api.OK {
		*m = *was
		return e
	}
	return api.OK
}

func (m *mirror) commit(c call) api.Errno {
	if _, there := m.txns[c.txn]; !there {
		return errTxn
	}
	m.appendOf(c.txn, api.Record{Kind: recCommit})
	m.appendOf(c.txn, api.Record{Kind: recEnd})
	delete(m.txns, c.txn)
	return api.OK
}

func (m *mirror) abort(c call) api.Errno {
	if _, there := m.txns[c.txn]; !there {
		return errTxn
	}
	was := m.twin()
	m.appendOf(c.txn, api.Record{Kind: recAbort})
	if e := m.undoTo(c.txn, 0); e != api.OK {
		*m = *was
		return e
	}
	m.appendOf(c.txn, api.Record{Kind: recEnd})
	delete(m.txns, c.txn)
	return api.OK
}

func (m *mirror) check() api.Errno {
	if len(m.txns) == 0 {
		m.base, m.mark, m.kept, m.records = m.end, 0, m.next, nil
		return api.OK
	}
	r := api.Record{Kind: recCheck, Next: m.next}
	for _, txn := range m.lives() {
		r.Lives = append(r.Lives, api.Live{Txn: txn, Last: m.txns[txn].last, Undo: pointOf(m.txns[txn]), Lost: true})
	}
	if m.room() < bytesOf(r)+m.keeps() {
		return errFull
	}
	m.mark = m.append(r)
	return api.OK
}

func (m *mirror) lives() []uint32 { return slices.Sorted(maps.Keys(m.txns)) }

func (m *mirror) use(c call) api.Errno {
	for _, number := range c.pages {
		if number < 1 || int(number) >= len(m.pages) {
			return errRange
		}
	}
	for _, number := range c.pages {
		m.used[number] = true
	}
	return api.OK
}

func (m *mirror) fresh(c call) answer {
	if c.n < 0 {
		return answer{e: errArg}
	}
	var all []uint32
	for number := range m.pages {
		if number > 0 && !m.used[uint32(number)] {
			all = append(all, uint32(number))
		}
	}
	if len(all) < c.n {
		return answer{e: errFull}
	}
	for _, number := range all[:c.n] {
		m.used[number] = true
	}
	return answer{pages: all[:c.n]}
}

// call does a call.
func (m *mirror) call(c call) answer {
	switch c.kind {
	case 'b':
		return m.begin()
	case 'd':
		return answer{e: m.do(c)}
	case 's':
		return answer{e: m.shape(c)}
	case 'k':
		return answer{e: m.back(c)}
	case 'c':
		return answer{e: m.commit(c)}
	case 'a':
		return answer{e: m.abort(c)}
	case 'x':
		return answer{e: m.check()}
	case 'u':
		return answer{e: m.use(c)}
	case 'f':
		return m.fresh(c)
	}
	for _, number := range c.pages {
		delete(m.used, number)
	}
	return answer{}
}

// settled are the pages with all taken back that has not committed.
func (m *mirror) settled(t *testing.T) []api.Page {
	t.Helper()
	n := m.twin()
	for {
		last := uint32(0)
		for txn, x := range n.txns {
			if x.point() > 0 && (last == 0 || x.point() > pointOf(n.txns[last])) {
				last = txn
			}
		}
		if last == 0 {
			return n.pages
		}
		is(t, "a mirror's undo", n.undo(last), api.OK)
	}
}

// agrees asks that a kernel is as a mirror, but for the log's records, and perhaps the pages.
func agrees(t *testing.T, what func() string, k *Kernel, m *mirror, pages bool) {
	t.Helper()
	if got := k.Pages(); got != len(m.pages)-1 {
		t.Fatalf("%s: %d pages", what(), got)
	}
	if got := k.Lives(); !slices.Equal(got, m.lives()) {
		t.Fatalf("%s: Lives %d, want %d", what(), got, m.lives())
	}
	for txn := max(m.next, 60) - 60; txn <= m.next; txn++ {
		x, live := m.txns[txn]
		if got := k.Live(txn); got != live {
			t.Fatalf("%s: Live(%d) %v", what(), txn, got)
		}
		if got := k.Point(txn); got != x.point() {
			t.Fatalf("%s: Point(%d) %d, want %d", what(), txn, got, x.point())
		}
	}
	l := k.Log()
	if l.Base() != m.base || l.End() != m.end || l.Check() != m.mark || l.Kept() != m.kept || l.Room() != m.room() || l.Sectors() != m.sectors {
		t.Fatalf("%s: the log: Base %d, End %d, Check %d, Kept %d, Room %d, want %d, %d, %d, %d, %d", what(), l.Base(), l.End(), l.Check(), l.Kept(), l.Room(), m.base, m.end, m.mark, m.kept, m.room())
	}
	if pages {
		if got := allPages(t, k); !slices.EqualFunc(got, m.pages, alike) {
			t.Fatalf("%s: the pages are%s\nwant%s", what(), shownPages(got), shownPages(m.pages))
		}
	}
}

// agreesInLog asks that the log has the mirror's records.
func agreesInLog(t *testing.T, what func() string, d *disk.Disk, k *Kernel, m *mirror) {
	t.Helper()
	is(t, "Flush", k.Log().Flush(), api.OK)
	_, records, e := wal.Open(d)
	is(t, "wal.Open", e, api.OK)
	if !slices.EqualFunc(records, m.records, alikeRecord) {
		t.Fatalf("%s: the log has\n%+v\nwant\n%+v", what(), records, m.records)
	}
}

// follows does a call on both sides, and asks that they agree.
func follows(t *testing.T, what func() string, k *Kernel, m *mirror, c call, pages bool) answer {
	t.Helper()
	got, want := k.call(c), m.call(c)
	if !got.same(want) {
		t.Fatalf("%s: %v answers %+v, want %+v", what(), c, got, want)
	}
	agrees(t, func() string { return fmt.Sprintf("%s behind %v", what(), c) }, k, m, pages)
	return got
}
