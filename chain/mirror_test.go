package chain

import (
	"testing"

	"cadastre/api"
	"cadastre/page"
	"cadastre/record"
)

// Here the chapter's words stand anew: without maps, each thing looked for from the beginning on.

// areRight: each record may be, their LSNs rise strictly, the first one's is not 0.
func areRight(records []api.Record) bool {
	for i := range records {
		if !record.May(records[i]) {
			return false
		}
		if i == 0 && records[i].LSN == 0 {
			return false
		}
		if i > 0 && records[i].LSN <= records[i-1].LSN {
			return false
		}
	}
	return true
}

// placeOf tells the place of a transaction among some, or -1; and where it would stand.
func placeOf(lives []api.Live, txn uint32) (int, int) {
	for i, l := range lives {
		if l.Txn == txn {
			return i, i
		}
		if l.Txn > txn {
			return -1, i
		}
	}
	return -1, len(lives)
}

// withDirty tells dirty pages with one more, which is perhaps among them.
func withDirty(dirty []api.Dirty, number uint32, lsn uint64) []api.Dirty {
	var all []api.Dirty
	done := false
	for _, d := range dirty {
		if d.Page == number {
			return dirty
		}
		if d.Page > number && !done {
			all, done = append(all, api.Dirty{Page: number, From: lsn}), true
		}
		all = append(all, d)
	}
	if !done {
		all = append(all, api.Dirty{Page: number, From: lsn})
	}
	return all
}

// followed is what stands behind a record, or false.
func followed(a answer, r api.Record) (answer, bool) {
	at, to := placeOf(a.lives, r.Txn)
	lives := append([]api.Live(nil), a.lives...)
	isLive := at >= 0
	isLost := isLive && lives[at].Lost
	fits := isLive && lives[at].Last == r.Prev
	switch r.Kind {
	case recBegin:
		if isLive {
			return a, false
		}
		lives = append(lives[:to:to], append([]api.Live{lost(r.Txn, r.LSN, 0)}, lives[to:]...)...)
		behind := uint64(r.Txn) + 1
		if r.Txn == greatest {
			behind = greatest
		}
		if uint64(a.next) < behind {
			a.next = uint32(behind)
		}
	case recDo:
		if !isLost || !fits {
			return a, false
		}
		lives[at].Last, lives[at].Undo = r.LSN, r.LSN
		a.dirty = withDirty(a.dirty, r.Page, r.LSN)
	case recUndo:
		if !isLost || !fits || !(r.Undo < lives[at].Undo) {
			return a, false
		}
		lives[at].Last, lives[at].Undo = r.LSN, r.Undo
		a.dirty = withDirty(a.dirty, r.Page, r.LSN)
	case recCommit:
		if !isLost || !fits {
			return a, false
		}
		lives[at] = kept(r.Txn, r.LSN, 0)
	case recAbort:
		if !isLost || !fits {
			return a, false
		}
		lives[at].Last = r.LSN
	case recEnd:
		if !isLive || !fits || lives[at].Undo != 0 {
			return a, false
		}
		lives = append(lives[:at:at], lives[at+1:]...)
	case recShape:
		for _, i := range r.Images {
			a.dirty = withDirty(a.dirty, i.Page, r.LSN)
		}
	}
	a.lives = lives
	return a, true
}

// analysed is what Analyse is to answer.
func analysed(records []api.Record, check uint64) answer {
	if !areRight(records) {
		return answer{e: errForm}
	}
	a := answer{next: 1}
	if check != 0 {
		at := -1
		for i, r := range records {
			if r.Kind == recCheck && r.LSN == check {
				at = i
			}
		}
		if at < 0 {
			return answer{e: errForm}
		}
		r := records[at]
		a = answer{lives: r.Lives, dirty: r.Dirty, next: r.Next}
		if a.next == 0 {
			a.next = 1
		}
		records = records[at+1:]
	}
	for _, r := range records {
		var ok bool
		if a, ok = followed(a, r); !ok {
			return answer{e: errForm}
		}
	}
	return a
}

// redone is what Redo is to answer.
func redone(pages []api.Image, records []api.Record, from uint64) ([]api.Image, api.Errno) {
	for i, p := range pages {
		if p.Page == 0 || i > 0 && p.Page <= pages[i-1].Page {
			return nil, errArg
		}
		if !page.May(p.To) && !samePage(p.To, api.Page{}) {
			return nil, errArg
		}
	}
	if !areRight(records) {
		return nil, errForm
	}
	all := twinImages(pages)
	for _, r := range records {
		if r.LSN < from {
			continue
		}
		numbers := []uint32{}
		if r.Kind == recDo || r.Kind == recUndo {
			numbers = append(numbers, r.Page)
		}
		for _, i := range r.Images {
			numbers = append(numbers, i.Page)
		}
		for which, number := range numbers {
			at := -1
			for i := range all {
				if all[i].Page == number {
					at = i
				}
			}
			if at < 0 {
				return nil, errNone
			}
			if all[at].To.LSN >= r.LSN {
				continue
			}
			var to api.Page
			if r.Kind == recShape {
				to = twinPage(r.Images[which].To)
			} else {
				var e api.Errno
				if to, e = page.Do(all[at].To, r.Op); e != api.OK {
					return nil, errForm
				}
			}
			to.LSN = r.LSN
			all[at].To = to
		}
	}
	return all, api.OK
}

// followsWords asks that Analyse answers what the words say; what that is.
func followsWords(t *testing.T, records []api.Record, check uint64) answer {
	t.Helper()
	want := analysed(records, check)
	tells(t, records, check, want)
	return want
}

// redoesWords asks that Redo answers what the words say; which error that is.
func redoesWords(t *testing.T, pages []api.Image, records []api.Record, from uint64) api.Errno {
	t.Helper()
	want, e := redone(pages, records, from)
	if e != api.OK {
		redoesNot(t, pages, records, from, e)
		return e
	}
	redoes(t, pages, records, from, want...)
	return e
}
