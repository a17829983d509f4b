package chain

import (
	"math"
	"slices"
	"testing"

	"cadastre/api"
)

// example are the records of the chapter's examples.
func example() []api.Record {
	return []api.Record{began(1, 1), did(6, 1, 1, 2, put(0, "a")), began(20, 2), committed(25, 1, 6)}
}

// P13.1, P13.2: the chapter's examples.
func TestExamples(t *testing.T) {
	lives := []api.Live{kept(1, 25, 0), lost(2, 20, 0)}
	tells(t, example(), 0, answer{lives: lives, dirty: []api.Dirty{{Page: 2, From: 6}}, next: 3})
	if got := From([]api.Dirty{{Page: 2, From: 6}}); got != 6 {
		t.Errorf("From: %d", got)
	}
	if got := Next(lives); got != 1 {
		t.Errorf("Next: %d", got)
	}
	tells(t, example(), 6, answer{e: errForm})
	tells(t, append(example(), gone(30, 2, 20)), 0, answer{lives: lives[:1], dirty: []api.Dirty{{Page: 2, From: 6}}, next: 3})
}

// The error's numbers, and those of the kinds.
func TestNumbers(t *testing.T) {
	if api.ErrArg != errArg || api.ErrForm != errForm || api.ErrNone != errNone {
		t.Error("errors")
	}
	if api.RecBegin != recBegin || api.RecDo != recDo || api.RecUndo != recUndo || api.RecShape != recShape || api.RecCommit != recCommit || api.RecAbort != recAbort || api.RecEnd != recEnd || api.RecCheck != recCheck {
		t.Error("kinds")
	}
}

// P13.1: of no records; a checkpoint is not among them then.
func TestAnalyseNone(t *testing.T) {
	for _, none := range [][]api.Record{nil, {}, example()[:0]} {
		tells(t, none, 0, answer{next: 1})
		for _, check := range []uint64{1, 6, math.MaxUint64} {
			tells(t, none, check, answer{e: errForm})
		}
	}
}

// wrongs are lists of records that are not right.
func wrongs() [][]api.Record {
	return [][]api.Record{
		{began(0, 1)}, {shaped(0, image(1, pageOf(heapKind, 0)))}, {checked(0, nil, nil, 0)}, {began(0, 1), began(5, 2)},
		{began(5, 1), began(5, 2)}, {began(5, 1), began(4, 2)}, {began(5, 1), began(9, 2), began(9, 3)}, {began(5, 1), began(9, 2), began(5, 3)}, {began(5, 1), began(9, 2), began(0, 3)},
		{began(math.MaxUint64, 1), began(math.MaxUint64, 2)}, {began(math.MaxUint64, 1), began(1, 2)},
		{{}}, {{LSN: 3}}, {{Kind: 9, LSN: 3}}, {{Kind: -1, LSN: 3}}, {began(3, 0)}, {began(3, 1), {Kind: recBegin, LSN: 4, Txn: 2, Prev: 3}},
		{began(1, 1), did(2, 1, 1, 0, put(0, "a"))}, {began(1, 1), did(2, 1, 1, 2, put(0, ""))}, {began(1, 1), did(2, 1, 1, 2, wake(0))}, {began(1, 1), did(2, 1, 1, 2, put(60, "a"))},
		{began(1, 1), did(2, 1, 1, 2, put(0, "a")), undid(3, 1, 2, 0, 2, put(0, "a"))}, {began(1, 1), inTree(did(2, 1, 1, 2, put(1, "a")), 2)},
		{shaped(3)}, {shaped(3, image(0, pageOf(heapKind, 0)))}, {shaped(3, image(2, pageOf(heapKind, 1)))}, {shaped(3, image(2, api.Page{}))}, {shaped(3, image(2, pageOf(heapKind, 0)), image(2, pageOf(heapKind, 0)))},
		{checked(3, []api.Live{{Txn: 0}}, nil, 0)}, {checked(3, []api.Live{{Txn: 2}, {Txn: 2}}, nil, 0)}, {checked(3, nil, []api.Dirty{{Page: 0}}, 0)}, {checked(3, nil, []api.Dirty{{Page: 3}, {Page: 2}}, 0)},
	}
}

// P13.1: records that are not right, alone, ahead of a checkpoint, and behind it.
func TestAnalyseWrong(t *testing.T) {
	for _, wrong := range wrongs() {
		tells(t, wrong, 0, answer{e: errForm})
		tells(t, wrong, 3, answer{e: errForm})
		last := wrong[len(wrong)-1].LSN
		if last < 1000 {
			ahead := append(slices.Clone(wrong), checked(1000, nil, nil, 0))
			tells(t, ahead, 1000, answer{e: errForm})
			tells(t, ahead, 0, answer{e: errForm})
		}
		behind := []api.Record{checked(1000, nil, nil, 0)}
		for _, r := range wrong {
			if r.LSN > 0 && r.LSN < 1000 {
				r.LSN += 1000
			}
			behind = append(behind, r)
		}
		tells(t, behind, 1000, answer{e: errForm})
		tells(t, behind, 0, answer{e: errForm})
	}
}

// P13.1: LSNs rise, however far from one to the other, from 1 on up to the last there is.
func TestAnalyseLSNs(t *testing.T) {
	last := uint64(math.MaxUint64)
	tells(t, []api.Record{began(1, 1), began(2, 2), began(last-1, 3), began(last, 4)}, 0,
		answer{lives: []api.Live{lost(1, 1, 0), lost(2, 2, 0), lost(3, last-1, 0), lost(4, last, 0)}, next: 5})
	tells(t, []api.Record{began(last-2, 1), did(last-1, 1, last-2, greatest, put(0, "a")), committed(last, 1, last-1)}, 0,
		answer{lives: []api.Live{kept(1, last, 0)}, dirty: []api.Dirty{{Page: greatest, From: last - 1}}, next: 2})
	tells(t, []api.Record{checked(last, []api.Live{lost(7, last, last)}, []api.Dirty{{Page: 1, From: last}}, 8)}, last,
		answer{lives: []api.Live{lost(7, last, last)}, dirty: []api.Dirty{{Page: 1, From: last}}, next: 8})
}

// P13.1: the next number is above all that began, whether they live or not; of the greatest there is it is that.
func TestAnalyseNext(t *testing.T) {
	for _, c := range []struct {
		txns []uint32
		want uint32
	}{
		{[]uint32{1}, 2}, {[]uint32{7}, 8}, {[]uint32{7, 3}, 8}, {[]uint32{3, 7}, 8}, {[]uint32{greatest - 1}, greatest}, {[]uint32{greatest}, greatest},
		{[]uint32{greatest, greatest - 1, 4}, greatest}, {[]uint32{greatest - 2}, greatest - 1}, {[]uint32{1 << 31}, 1<<31 + 1},
	} {
		var records, ended []api.Record
		var lives []api.Live
		for i, txn := range c.txns {
			at := uint64(10 + 10*i)
			records = append(records, began(at, txn))
			ended = append(ended, began(at, txn), gone(at+1, txn, at))
			lives = append(lives, lost(txn, at, 0))
		}
		slices.SortFunc(lives, func(a, b api.Live) int { return int(int64(a.Txn) - int64(b.Txn)) })
		tells(t, records, 0, answer{lives: lives, next: c.want})
		tells(t, ended, 0, answer{next: c.want})
		for _, next := range []uint32{0, 1, 2, 8, 9, greatest - 1, greatest} {
			check := append([]api.Record{checked(5, nil, nil, next)}, records...)
			tells(t, check, 5, answer{lives: lives, next: max(next, c.want)})
			// Where it is not asked for, a checkpoint says nothing.
			tells(t, check, 0, answer{lives: lives, next: c.want})
		}
	}
}

// P13.1: a checkpoint's own are taken as they are; a next number of 0 is 1.
func TestAnalyseCheck(t *testing.T) {
	lives := []api.Live{lost(3, 90, 80), kept(4, 7, 6), lost(9, 0, 0), kept(greatest, math.MaxUint64, math.MaxUint64)}
	dirty := []api.Dirty{{Page: 2, From: 99}, {Page: 5, From: 0}, {Page: greatest, From: math.MaxUint64}}
	for next, want := range map[uint32]uint32{0: 1, 1: 1, 2: 2, 77: 77, greatest: greatest} {
		r := checked(50, lives, dirty, next)
		tells(t, []api.Record{r}, 50, answer{lives: lives, dirty: dirty, next: want})
		tells(t, []api.Record{r}, 0, answer{next: 1})
		for _, check := range []uint64{1, 49, 51, 49 + 1<<32, math.MaxUint64} {
			tells(t, []api.Record{r}, check, answer{e: errForm})
		}
		// What stands ahead is not gone through, nor is a later checkpoint taken.
		all := []api.Record{gone(3, 5, 9), began(4, 8), did(6, 8, 4, 7, put(0, "a")), r, checked(60, nil, []api.Dirty{{Page: 8, From: 3}}, 90)}
		tells(t, all, 50, answer{lives: lives, dirty: dirty, next: want})
		tells(t, all, 60, answer{dirty: []api.Dirty{{Page: 8, From: 3}}, next: 90})
		tells(t, all, 0, answer{e: errForm})
		tells(t, all[1:], 0, answer{lives: []api.Live{lost(8, 6, 6)}, dirty: []api.Dirty{{Page: 7, From: 6}}, next: 9})
		tells(t, all, 4, answer{e: errForm})
	}
}

// P13.1: what may stand behind a checkpoint's live transactions: those that are lost go on, those that are not may but end.
func TestAnalyseBehindCheck(t *testing.T) {
	lives := []api.Live{lost(3, 40, 30), kept(4, 7, 6), lost(9, 41, 0), kept(10, 42, 0)}
	check := checked(50, lives, []api.Dirty{{Page: 2, From: 20}}, 11)
	image := shaped(60, image(2, pageOf(heapKind, 0)), image(6, pageOf(heapKind, 0)))
	for _, c := range []struct {
		r     api.Record
		lives []api.Live
		dirty uint32
	}{
		{did(60, 3, 40, 6, put(0, "a")), []api.Live{lost(3, 60, 60), lives[1], lives[2], lives[3]}, 6},
		{did(60, 3, 40, 2, put(0, "a")), []api.Live{lost(3, 60, 60), lives[1], lives[2], lives[3]}, 0},
		{undid(60, 3, 40, 29, 6, wake(0)), []api.Live{lost(3, 60, 29), lives[1], lives[2], lives[3]}, 6},
		{undid(60, 3, 40, 0, 2, wake(0)), []api.Live{lost(3, 60, 0), lives[1], lives[2], lives[3]}, 0},
		{committed(60, 3, 40), []api.Live{kept(3, 60, 0), lives[1], lives[2], lives[3]}, 0},
		{aborted(60, 3, 40), []api.Live{lost(3, 60, 30), lives[1], lives[2], lives[3]}, 0},
		{gone(60, 9, 41), []api.Live{lives[0], lives[1], lives[3]}, 0},
		{gone(60, 10, 42), lives[:3], 0},
		{began(60, 5), []api.Live{lives[0], lives[1], lost(5, 60, 0), lives[2], lives[3]}, 0},
		{image, lives, 6},
		{checked(60, nil, []api.Dirty{{Page: 6, From: 3}}, 99), lives, 0},
	} {
		dirty := []api.Dirty{{Page: 2, From: 20}}
		if c.dirty > 0 {
			dirty = append(dirty, api.Dirty{Page: c.dirty, From: 60})
		}
		tells(t, []api.Record{check, c.r}, 50, answer{lives: c.lives, dirty: dirty, next: 11})
	}
	for _, r := range []api.Record{
		did(60, 3, 39, 6, put(0, "a")), did(60, 3, 0, 6, put(0, "a")), did(60, 3, 50, 6, put(0, "a")), did(60, 4, 7, 6, put(0, "a")), did(60, 5, 0, 6, put(0, "a")),
		undid(60, 3, 39, 29, 6, wake(0)), undid(60, 3, 40, 30, 6, wake(0)), undid(60, 3, 40, 31, 6, wake(0)), undid(60, 3, 40, 40, 6, wake(0)), undid(60, 4, 7, 5, 6, wake(0)), undid(60, 9, 41, 0, 6, wake(0)), undid(60, 5, 0, 0, 6, wake(0)),
		committed(60, 3, 41), committed(60, 4, 7), committed(60, 10, 42), committed(60, 5, 0),
		aborted(60, 3, 41), aborted(60, 4, 7), aborted(60, 10, 42), aborted(60, 5, 0),
		gone(60, 3, 40), gone(60, 4, 7), gone(60, 9, 40), gone(60, 10, 41), gone(60, 5, 0), gone(60, 5, 60),
		began(60, 3), began(60, 4), began(60, 9), began(60, 10),
	} {
		tells(t, []api.Record{check, r}, 50, answer{e: errForm})
		tells(t, []api.Record{check, r, began(70, 20)}, 50, answer{e: errForm})
	}
}

// P13.1: a transaction's ways, by hand: what was undone is not undone again; who was aborted goes on; a number may come again.
func TestAnalyseWays(t *testing.T) {
	first := []api.Record{began(1, 5), did(4, 5, 1, 2, put(0, "a")), did(9, 5, 4, 3, put(0, "b")), undid(12, 5, 9, 4, 3, free(0))}
	dirty := []api.Dirty{{Page: 2, From: 4}, {Page: 3, From: 9}}
	tells(t, first, 0, answer{lives: []api.Live{lost(5, 12, 4)}, dirty: dirty, next: 6})
	for _, c := range []struct {
		behind []api.Record
		lives  []api.Live
		e      api.Errno
	}{
		{[]api.Record{did(20, 5, 12, 2, put(1, "c"))}, []api.Live{lost(5, 20, 20)}, 0},
		{[]api.Record{did(20, 5, 9, 2, put(1, "c"))}, nil, errForm},
		{[]api.Record{undid(20, 5, 12, 0, 2, free(0))}, []api.Live{lost(5, 20, 0)}, 0},
		{[]api.Record{undid(20, 5, 12, 3, 2, free(0))}, []api.Live{lost(5, 20, 3)}, 0},
		{[]api.Record{undid(20, 5, 12, 4, 2, free(0))}, nil, errForm},
		{[]api.Record{undid(20, 5, 12, 0, 2, free(0)), undid(21, 5, 20, 0, 2, free(0))}, nil, errForm},
		{[]api.Record{undid(20, 5, 12, 0, 2, free(0)), gone(21, 5, 20)}, nil, 0},
		{[]api.Record{undid(20, 5, 12, 0, 2, free(0)), gone(21, 5, 12)}, nil, errForm},
		{[]api.Record{undid(20, 5, 12, 0, 2, free(0)), gone(21, 5, 20), began(22, 5)}, []api.Live{lost(5, 22, 0)}, 0},
		{[]api.Record{undid(20, 5, 12, 0, 2, free(0)), gone(21, 5, 20), gone(22, 5, 21)}, nil, errForm},
		{[]api.Record{undid(20, 5, 12, 0, 2, free(0)), gone(21, 5, 20), did(22, 5, 21, 2, put(1, "c"))}, nil, errForm},
		{[]api.Record{gone(20, 5, 12)}, nil, errForm},
		{[]api.Record{aborted(20, 5, 12)}, []api.Live{lost(5, 20, 4)}, 0},
		{[]api.Record{aborted(20, 5, 12), aborted(21, 5, 20), did(22, 5, 21, 2, put(1, "c")), committed(23, 5, 22)}, []api.Live{kept(5, 23, 0)}, 0},
		{[]api.Record{aborted(20, 5, 12), gone(21, 5, 20)}, nil, errForm},
		{[]api.Record{aborted(20, 5, 12), undid(21, 5, 20, 0, 2, free(0)), gone(22, 5, 21)}, nil, 0},
		{[]api.Record{committed(20, 5, 12)}, []api.Live{kept(5, 20, 0)}, 0},
		{[]api.Record{committed(20, 5, 12), gone(21, 5, 20)}, nil, 0},
		{[]api.Record{committed(20, 5, 12), gone(21, 5, 12)}, nil, errForm},
		{[]api.Record{committed(20, 5, 12), committed(21, 5, 20)}, nil, errForm},
		{[]api.Record{committed(20, 5, 12), aborted(21, 5, 20)}, nil, errForm},
		{[]api.Record{committed(20, 5, 12), did(21, 5, 20, 2, put(1, "c"))}, nil, errForm},
		{[]api.Record{committed(20, 5, 12), undid(21, 5, 20, 0, 2, free(0))}, nil, errForm},
		{[]api.Record{committed(20, 5, 12), began(21, 5)}, nil, errForm},
		{[]api.Record{began(20, 5)}, nil, errForm},
	} {
		want := answer{e: c.e}
		if c.e == 0 {
			want = answer{lives: c.lives, dirty: dirty, next: 6}
		}
		tells(t, append(slices.Clip(first), c.behind...), 0, want)
	}
}

// P13.1: a page is dirty from the first record on that changed it: a Do, an Undo, one of a Shape's.
func TestAnalyseDirty(t *testing.T) {
	heap := pageOf(heapKind, 0)
	tells(t, []api.Record{
		shaped(3, image(4, heap), image(6, heap), image(greatest, heap)), began(5, 1), did(8, 1, 5, 9, put(0, "a")), did(9, 1, 8, 4, put(0, "a")), did(12, 1, 9, 1, put(0, "a")),
		undid(15, 1, 12, 9, 1, free(0)), shaped(20, image(1, heap), image(2, heap), image(9, heap)), undid(22, 1, 15, 8, 5, free(0)), aborted(30, 1, 22), checked(31, nil, []api.Dirty{{Page: 77}}, 0),
	}, 0, answer{lives: []api.Live{lost(1, 30, 8)}, next: 2, dirty: []api.Dirty{{Page: 1, From: 12}, {Page: 2, From: 20}, {Page: 4, From: 3}, {Page: 5, From: 22}, {Page: 6, From: 3}, {Page: 9, From: 8}, {Page: greatest, From: 3}}})
}

// P13.1: however many live transactions and dirty pages there are, they are told by rising numbers.
func TestAnalyseMany(t *testing.T) {
	pick := picker(3)
	var records []api.Record
	lives := map[uint32]api.Live{}
	dirty := map[uint32]uint64{}
	next := uint32(1)
	for lsn := uint64(10); len(lives) < 5000; lsn += 10 {
		txn, page := uint32(1+pick(1<<30)), uint32(1+pick(1<<30))
		if _, there := lives[txn]; there {
			continue
		}
		records = append(records, began(lsn, txn), did(lsn+1, txn, lsn, page, put(0, "a")))
		lives[txn] = lost(txn, lsn+1, lsn+1)
		next = max(next, txn+1)
		if dirty[page] == 0 {
			dirty[page] = lsn + 1
		}
	}
	want := answer{next: next}
	for _, l := range lives {
		want.lives = append(want.lives, l)
	}
	for page, from := range dirty {
		want.dirty = append(want.dirty, api.Dirty{Page: page, From: from})
	}
	slices.SortFunc(want.lives, func(a, b api.Live) int { return int(a.Txn) - int(b.Txn) })
	slices.SortFunc(want.dirty, func(a, b api.Dirty) int { return int(a.Page) - int(b.Page) })
	for range 3 {
		if got := analyse(records, 0); !got.same(want) {
			t.Fatal("5000 live transactions: another answer")
		}
	}
}

// P13.1: all short logs, as far as they are as they must be, and one record further: what the words say; from the beginning, and from each LSN on.
func TestAnalyseAllShort(t *testing.T) {
	t.Parallel()
	heap := pageOf(heapKind, 0)
	asked, right := 0, 0
	var ask func(records []api.Record)
	ask = func(records []api.Record) {
		ok := false
		for check := uint64(0); check <= 10*uint64(len(records))+10; check += 10 {
			asked++
			if a := followsWords(t, records, check); a.e == api.OK {
				right++
				ok = true
			}
		}
		if !ok || len(records) == 4 {
			return
		}
		lsn := 10 * uint64(len(records)+1)
		more := []api.Record{shaped(lsn, image(2, heap), image(3, heap)), checked(lsn, nil, nil, 0), checked(lsn, []api.Live{lost(1, lsn-10, lsn-10), kept(2, lsn-10, 10)}, []api.Dirty{{Page: 3, From: 10}}, 3)}
		for txn := uint32(1); txn <= 2; txn++ {
			more = append(more, began(lsn, txn))
			for prev := uint64(0); prev < lsn; prev += 10 {
				more = append(more, did(lsn, txn, prev, 1+txn, put(0, "a")), committed(lsn, txn, prev), aborted(lsn, txn, prev), gone(lsn, txn, prev))
				for undo := uint64(0); undo <= prev; undo += 10 {
					more = append(more, undid(lsn, txn, prev, undo, 3, free(0)))
				}
			}
		}
		for _, r := range more {
			ask(append(slices.Clip(records), r))
		}
	}
	ask(nil)
	if asked < 100000 || right < 4000 {
		t.Errorf("%d asked, %d right: not a test", asked, right)
	}
}

// P13.2: From tells the least there is, wherever it stands; 0 of none.
func TestFrom(t *testing.T) {
	for _, c := range []struct {
		all  []uint64
		want uint64
	}{
		{nil, 0}, {[]uint64{}, 0}, {[]uint64{0}, 0}, {[]uint64{7}, 7}, {[]uint64{math.MaxUint64}, math.MaxUint64}, {[]uint64{3, 7, 9}, 3}, {[]uint64{9, 7, 3}, 3}, {[]uint64{9, 3, 7}, 3},
		{[]uint64{3, 3}, 3}, {[]uint64{5, 0, 7}, 0}, {[]uint64{0, 5}, 0}, {[]uint64{math.MaxUint64, 1 << 63, 1<<63 + 1}, 1 << 63},
	} {
		var dirty []api.Dirty
		for i, from := range c.all {
			dirty = append(dirty, api.Dirty{Page: uint32(i % 2), From: from})
		}
		if got := From(dirty); got != c.want {
			t.Errorf("From(%v): %d, want %d", c.all, got, c.want)
		}
	}
}

// P13.2: Next tells the first of those that are lost with the greatest Undo; whatever else stands there plays no part.
func TestNext(t *testing.T) {
	for _, c := range []struct {
		lives []api.Live
		want  int
	}{
		{nil, -1}, {[]api.Live{}, -1}, {[]api.Live{{}}, -1}, {[]api.Live{kept(1, 5, 9)}, -1}, {[]api.Live{kept(1, 5, 9), kept(2, 5, 9)}, -1},
		{[]api.Live{lost(1, 0, 0)}, 0}, {[]api.Live{lost(0, 0, 0)}, 0}, {[]api.Live{kept(1, 5, 9), lost(2, 0, 0)}, 1}, {[]api.Live{lost(2, 0, 0), kept(3, 9, 9)}, 0},
		{[]api.Live{lost(1, 9, 3), lost(2, 8, 4), lost(3, 7, 2)}, 1}, {[]api.Live{lost(1, 9, 4), lost(2, 8, 3)}, 0}, {[]api.Live{lost(9, 1, 3), lost(2, 8, 4)}, 1},
		{[]api.Live{lost(1, 0, 0), lost(2, 0, 0)}, 0}, {[]api.Live{lost(1, 1, 4), lost(2, 2, 4), lost(3, 3, 4)}, 0}, {[]api.Live{lost(1, 1, 3), lost(2, 2, 4), lost(3, 3, 4)}, 1},
		{[]api.Live{lost(1, 1, 3), kept(2, 2, 9), lost(3, 3, 4)}, 2}, {[]api.Live{lost(1, 1, 1<<63-1), lost(2, 2, 1<<63), lost(3, 3, 5)}, 1}, {[]api.Live{lost(1, 1, 5), lost(1, 1, math.MaxUint64)}, 1},
	} {
		if got := Next(c.lives); got != c.want {
			t.Errorf("Next(%+v): %d, want %d", c.lives, got, c.want)
		}
	}
}

// P13.2: all lists of up to four.
func TestNextAll(t *testing.T) {
	var ask func(lives []api.Live)
	ask = func(lives []api.Live) {
		want := -1
		for i := len(lives) - 1; i >= 0; i-- {
			if lives[i].Lost && (want < 0 || lives[i].Undo >= lives[want].Undo) {
				want = i
			}
		}
		if got := Next(lives); got != want {
			t.Fatalf("Next(%+v): %d, want %d", lives, got, want)
		}
		if len(lives) == 4 {
			return
		}
		for undo := range uint64(3) {
			ask(append(slices.Clip(lives), lost(7, 1, undo)))
			ask(append(slices.Clip(lives), kept(7, 1, undo)))
		}
	}
	ask(nil)
}
