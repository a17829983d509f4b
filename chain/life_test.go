package chain

import (
	"fmt"
	"slices"
	"sort"
	"testing"

	"cadastre/api"
	"cadastre/page"
)

// deed is what a transaction did, and may undo.
type deed struct {
	lsn  uint64
	page uint32
	root uint32
	op   api.Op
}

// txn is a live transaction.
type txn struct {
	last  uint64
	deeds []deed
	lost  bool
}

func (x *txn) undo() uint64 {
	if len(x.deeds) == 0 {
		return 0
	}
	return x.deeds[len(x.deeds)-1].lsn
}

// life is a log as a kernel writes it: what each record makes of the pages is kept, version by version.
type life struct {
	pick    func(n int) int
	lsn     uint64
	records []api.Record
	most    int // pages
	vers    map[uint32][]api.Page
	txns    map[uint32]*txn
	first   map[uint32]uint64 // of each page the first record of it
	next    uint32
	words   int
}

func newLife(seed uint64, most int) *life {
	l := &life{pick: picker(seed), most: most, vers: map[uint32][]api.Page{}, txns: map[uint32]*txn{}, first: map[uint32]uint64{}, next: 1}
	for number := uint32(1); number <= uint32(most); number++ {
		l.vers[number] = []api.Page{{}}
	}
	return l
}

func (l *life) append(r api.Record) uint64 {
	l.lsn += uint64(1 + l.pick(40))
	r.LSN = l.lsn
	l.records = append(l.records, r)
	return r.LSN
}

func (l *life) now(number uint32) api.Page { return l.vers[number][len(l.vers[number])-1] }

func (l *life) become(number uint32, to api.Page, lsn uint64) {
	to = twinPage(to)
	to.LSN = lsn
	l.vers[number] = append(l.vers[number], to)
	if l.first[number] == 0 {
		l.first[number] = lsn
	}
}

func (l *life) someTxn() (uint32, *txn) {
	var all []uint32
	for number := range l.txns {
		all = append(all, number)
	}
	if len(all) == 0 {
		return 0, nil
	}
	slices.Sort(all)
	number := all[l.pick(len(all))]
	return number, l.txns[number]
}

func (l *life) word() string {
	l.words++
	return fmt.Sprintf("%c%d", 'a'+l.pick(26), l.words)
}

// someOp is a Put or a Kill that may be done to a page, or not.
func (l *life) someOp(p api.Page, number uint32) api.Op {
	op := api.Op{Kind: opPut, Data: []byte(l.word())}
	slot := l.pick(len(p.Cells) + 1)
	if l.pick(3) == 0 && slot < len(p.Cells) {
		op = api.Op{Kind: opKill, Txn: number, Data: p.Cells[slot].Data}
	}
	if p.Kind == heapKind {
		op.Slot = slot
		if op.Kind == opKill {
			op.Data = nil
		}
	}
	return op
}

func (l *life) begin() {
	number := l.next
	if l.pick(5) == 0 {
		number += uint32(l.pick(3))
	}
	l.txns[number] = &txn{last: l.append(api.Record{Kind: recBegin, Txn: number}), lost: true}
	l.next = number + 1
}

func (l *life) do() {
	number, x := l.someTxn()
	if x == nil || !x.lost {
		return
	}
	where := uint32(1 + l.pick(l.most))
	p := l.now(where)
	op := l.someOp(p, number)
	to, e := page.Do(p, op)
	if e != api.OK {
		return
	}
	root := uint32(0)
	if p.Kind == leafKind {
		root = 9
	}
	lsn := l.append(api.Record{Kind: recDo, Txn: number, Prev: x.last, Page: where, Root: root, Op: op})
	x.last, x.deeds = lsn, append(x.deeds, deed{lsn, where, root, op})
	l.become(where, to, lsn)
}

// undo takes the last deed of a transaction back; of a leaf in whichever has it now.
func (l *life) undo() {
	number, x := l.someTxn()
	if x == nil || len(x.deeds) == 0 {
		return
	}
	d := x.deeds[len(x.deeds)-1]
	kind := heapKind
	if d.root != 0 {
		kind = leafKind
	}
	back, _ := page.Undo(kind, d.op)
	for where := uint32(1); where <= uint32(l.most); where++ {
		to, e := page.Do(l.now(where), back)
		if e != api.OK || l.now(where).Kind != kind || d.root == 0 && where != d.page {
			continue
		}
		x.deeds = x.deeds[:len(x.deeds)-1]
		x.last = l.append(api.Record{Kind: recUndo, Txn: number, Prev: x.last, Undo: x.undo(), Page: where, Root: d.root, Op: back})
		l.become(where, to, x.last)
		return
	}
}

func (l *life) commit() {
	number, x := l.someTxn()
	if x == nil || !x.lost {
		return
	}
	x.last, x.deeds, x.lost = l.append(api.Record{Kind: recCommit, Txn: number, Prev: x.last}), nil, false
}

func (l *life) abort() {
	number, x := l.someTxn()
	if x != nil && x.lost {
		x.last = l.append(api.Record{Kind: recAbort, Txn: number, Prev: x.last})
	}
}

func (l *life) end() {
	number, x := l.someTxn()
	if x != nil && len(x.deeds) == 0 {
		l.append(api.Record{Kind: recEnd, Txn: number, Prev: x.last})
		delete(l.txns, number)
	}
}

// shape builds up to three pages anew: empty ones, or what stood there, on another page's number, too.
func (l *life) shape() {
	var images []api.Image
	for number := uint32(1); number <= uint32(l.most); number++ {
		if len(images) == 3 || l.pick(l.most) > 1 {
			continue
		}
		to := twinPage(l.now(uint32(1 + l.pick(l.most))))
		if to.Kind == 0 || l.pick(2) == 0 {
			to = pageOf([]int{heapKind, leafKind, leafKind, innerKind}[l.pick(4)], 0)
		}
		to.LSN, to.Next = 0, uint32(l.pick(3))
		images = append(images, image(number, to))
	}
	if len(images) == 0 {
		return
	}
	lsn := l.append(api.Record{Kind: recShape, Images: images})
	for _, i := range images {
		l.become(i.Page, i.To, lsn)
	}
}

// lives are the live transactions as the life knows them.
func (l *life) lives() []api.Live {
	var all []api.Live
	for number, x := range l.txns {
		all = append(all, api.Live{Txn: number, Last: x.last, Undo: x.undo(), Lost: x.lost})
	}
	sort.Slice(all, func(i, j int) bool { return all[i].Txn < all[j].Txn })
	return all
}

// dirty are the pages that were changed.
func (l *life) dirty() []api.Dirty {
	var all []api.Dirty
	for number := uint32(1); number <= uint32(l.most); number++ {
		if l.first[number] != 0 {
			all = append(all, api.Dirty{Page: number, From: l.first[number]})
		}
	}
	return all
}

// some are some of the dirty pages.
func (l *life) some(dirty []api.Dirty) []api.Dirty {
	var all []api.Dirty
	keep := l.pick(4)
	for _, d := range dirty {
		if l.pick(3) < keep {
			all = append(all, d)
		}
	}
	return all
}

// check writes a checkpoint as P13.6 has it: the live transactions, the next number, some of the dirty pages.
func (l *life) check() {
	l.append(api.Record{Kind: recCheck, Lives: l.lives(), Dirty: l.some(l.dirty()), Next: l.next})
}

// step does one thing, and sometimes nothing.
func (l *life) step() {
	switch n := l.pick(40); {
	case n < 4 && len(l.txns) < 6:
		l.begin()
	case n < 24:
		l.do()
	case n < 30:
		l.undo()
	case n < 32:
		l.commit()
	case n < 33:
		l.abort()
	case n < 37:
		l.end()
	case n < 39:
		l.shape()
	default:
		l.check()
	}
}

// lived is a life of so many steps.
func lived(seed uint64, most, steps int) *life {
	l := newLife(seed, most)
	for range steps {
		l.step()
	}
	return l
}

// pages are all pages, each in the version that is told.
func (l *life) pages(version func(all []api.Page) int) []api.Image {
	var all []api.Image
	for number := uint32(1); number <= uint32(l.most); number++ {
		v := l.vers[number]
		all = append(all, image(number, v[version(v)]))
	}
	return all
}

func newest(all []api.Page) int { return len(all) - 1 }
func oldest(all []api.Page) int { return 0 }

// firstLacked is the LSN of the first record that one of the pages lacks; one that is none's, if none lacks any.
func (l *life) firstLacked(pages []api.Image) uint64 {
	least := l.lsn + 1
	for _, p := range pages {
		for _, v := range l.vers[p.Page] {
			if v.LSN > p.To.LSN && v.LSN < least {
				least = v.LSN
			}
		}
	}
	return least
}

// P13.1: behind each record of a long life Analyse tells who lives, and which pages were changed, from where on.
func TestAnalyseLives(t *testing.T) {
	t.Parallel()
	seen := [9]int{}
	for seed := range 60 {
		l := newLife(uint64(seed), 1+seed%9)
		for range 250 {
			had := len(l.records)
			l.step()
			if had == len(l.records) {
				continue
			}
			seen[l.records[had].Kind]++
			tells(t, l.records, 0, answer{lives: l.lives(), dirty: l.dirty(), next: l.next})
		}
	}
	for kind, n := range seen {
		if kind > 0 && n < 100 {
			t.Errorf("%d records of the kind %d: not a test", n, kind)
		}
	}
}

// P13.1, P13.6: of whole lives, from the beginning on, and from each checkpoint on.
func TestAnalyseFromChecks(t *testing.T) {
	t.Parallel()
	checks, fewer := 0, 0
	for seed := range 100 {
		l := lived(uint64(1000+seed), 1+seed%9, 300)
		whole := analyse(l.records, 0)
		if whole.e != api.OK || !slices.Equal(whole.lives, l.lives()) || whole.next != l.next {
			t.Fatalf("Analyse(%s\n, 0): %s", shown(l.records), whole)
		}
		for _, r := range l.records {
			if r.Kind != recCheck {
				tells(t, l.records, r.LSN, answer{e: errForm})
				continue
			}
			checks++
			got := followsWords(t, l.records, r.LSN)
			if got.e != api.OK || !slices.Equal(got.lives, whole.lives) || got.next != whole.next {
				t.Fatalf("Analyse(%s\n, %d): %s, from the beginning %s", shown(l.records), r.LSN, got, whole)
			}
			for _, d := range got.dirty {
				if !slices.ContainsFunc(whole.dirty, func(w api.Dirty) bool { return w.Page == d.Page && w.From <= d.From }) {
					t.Fatalf("Analyse(%s\n, %d): %s, from the beginning %s", shown(l.records), r.LSN, got, whole)
				}
			}
			if len(got.dirty) < len(whole.dirty) {
				fewer++
			}
			// What stands ahead of the checkpoint plays no part, as long as the records are right.
			at := slices.IndexFunc(l.records, func(q api.Record) bool { return q.LSN == r.LSN })
			tells(t, l.records[at:], r.LSN, got)
			spoilt := append([]api.Record{gone(r.LSN-1, 77, 3)}, l.records[at:]...)
			if r.LSN > 1 {
				tells(t, spoilt, r.LSN, got)
				tells(t, spoilt, 0, answer{e: errForm})
			}
		}
	}
	if checks < 300 || fewer < 10 {
		t.Errorf("%d checkpoints, %d that tell fewer pages: not a test", checks, fewer)
	}
}

// P13.5: pages of whatever age become what they are behind all records; and again the same.
func TestHistoryRepeatsItself(t *testing.T) {
	t.Parallel()
	changed := 0
	for seed := range 100 {
		l := lived(uint64(2000+seed), 1+seed%9, 250)
		want := l.pages(newest)
		versions := []func(all []api.Page) int{oldest, newest}
		for range 8 {
			versions = append(versions, func(all []api.Page) int { return l.pick(len(all)) })
		}
		// Pages as they were written at one time, and some of them later.
		at := uint64(l.pick(int(l.lsn) + 1))
		versions = append(versions, func(all []api.Page) int {
			was := sort.Search(len(all), func(i int) bool { return all[i].LSN > at }) - 1
			return was + l.pick(len(all)-was)*l.pick(2)
		})
		for _, version := range versions {
			pages := l.pages(version)
			first := l.firstLacked(pages)
			for _, from := range []uint64{0, 1, first / 2, first - 1, first} {
				redoes(t, pages, l.records, from, want...)
				redoes(t, want, l.records, from, want...)
			}
			if !sameImages(pages, want) {
				changed++
			}
		}
		for _, r := range l.records {
			redoes(t, want, l.records, r.LSN, want...)
		}
	}
	if changed < 600 {
		t.Errorf("%d times pages became others: not a test", changed)
	}
}

// P13.3, P13.5: a beginning of the records, then all of them, or the rest alone: it is the same.
func TestHistoryInParts(t *testing.T) {
	t.Parallel()
	for seed := range 60 {
		l := lived(uint64(3000+seed), 1+seed%9, 200)
		want := l.pages(newest)
		for cut := range l.records {
			half, e := Redo(l.pages(oldest), l.records[:cut], 0)
			if e != api.OK {
				t.Fatalf("Redo(%s): %d", shown(l.records[:cut]), int(e))
			}
			for _, p := range half {
				v := l.vers[p.Page]
				i := slices.IndexFunc(v, func(q api.Page) bool { return q.LSN == p.To.LSN })
				if i < 0 || !samePage(v[i], p.To) || i+1 < len(v) && v[i+1].LSN < l.records[cut].LSN {
					t.Fatalf("Redo(%s): the page %d is %+v", shown(l.records[:cut]), p.Page, p.To)
				}
			}
			redoes(t, half, l.records[cut:], 0, want...)
			redoes(t, half, l.records, l.records[cut].LSN, want...)
		}
	}
}

// P13.3: whatever is asked for, in whatever order pages are behind, or missing: what the words say.
func TestRedoAnyPages(t *testing.T) {
	t.Parallel()
	errors := map[api.Errno]int{}
	for seed := range 4000 {
		l := lived(uint64(4000+seed), 1+seed%6, 40)
		pages := l.pages(func(all []api.Page) int { return l.pick(len(all)) })
		if l.pick(2) == 0 {
			i := l.pick(len(pages))
			pages = slices.Delete(pages, i, i+1)
		}
		for i := range pages {
			switch l.pick(24) {
			case 0:
				pages[i].To.LSN = uint64(l.pick(int(l.lsn) + 3))
			case 1:
				pages[i].To = l.now(uint32(1 + l.pick(l.most)))
			}
		}
		for range 6 {
			errors[redoesWords(t, pages, l.records, uint64(l.pick(int(l.lsn)+3)))]++
		}
		errors[redoesWords(t, pages, l.records, 0)]++
	}
	for _, e := range []api.Errno{api.OK, errArg, errForm, errNone} {
		if errors[e] < 300 {
			t.Errorf("%d times %d: not a test", errors[e], int(e))
		}
	}
}

// P13.1: lives whose records were changed, by chance: what the words say.
func TestAnalyseSpoilt(t *testing.T) {
	t.Parallel()
	right := 0
	for seed := range 6000 {
		l := lived(uint64(90000+seed), 3, 60)
		records := slices.Clone(l.records)
		for range 1 + l.pick(2) {
			if len(records) == 0 {
				break
			}
			i := l.pick(len(records))
			r := &records[i]
			other := records[l.pick(len(records))]
			switch l.pick(9) {
			case 0:
				r.LSN = other.LSN
			case 1:
				r.Prev = other.LSN
			case 2:
				r.Txn = other.Txn
			case 3:
				r.Undo = other.LSN
			case 4:
				r.Kind = other.Kind
			case 5:
				records = slices.Delete(records, i, i+1)
			case 6:
				records = records[i:]
			case 7:
				r.Kind, r.Undo, r.Page, r.Op = recCommit+l.pick(3), 0, 0, api.Op{}
			case 8:
				r.Undo = uint64(l.pick(int(l.lsn)))
			}
		}
		if followsWords(t, records, 0).e == api.OK {
			right++
		}
		for _, r := range records {
			if r.Kind == recCheck {
				if followsWords(t, records, r.LSN).e == api.OK {
					right++
				}
			}
		}
	}
	if right < 1000 || right > 9000 {
		t.Errorf("%d were right: not a test", right)
	}
}
