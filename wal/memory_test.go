package wal

import (
	"bytes"
	"slices"
	"testing"

	"cadastre/api"
)

// spread are items that are alike, with others behind their length, in the same memory.
func spread[Item any](items []Item, behind Item) []Item {
	return append(slices.Clone(items), slices.Repeat([]Item{behind}, 9)...)[:len(items)]
}

// heap is a page with a cell.
func heap(data string) api.Page {
	return api.Page{Kind: 1, Next: 3, Cells: []api.Cell{{Used: true, Killer: 5, Data: []byte(data)}}}
}

// kinds are records with lists and bytes of every sort, made anew at each call.
func kinds() []api.Record {
	return []api.Record{
		did(7, "some bytes"),
		{Kind: 4, Images: spread([]api.Image{{Page: 3, To: heap("abc")}, {Page: 9, To: heap("de")}}, api.Image{Page: 77})},
		{Kind: recCheck, Lives: spread([]api.Live{{Txn: 3, Last: 4, Undo: 5, Lost: true}}, api.Live{Txn: 77}), Dirty: spread([]api.Dirty{{Page: 2, From: 5}, {Page: 4, From: 1}}, api.Dirty{Page: 77}), Next: 8},
		{Kind: recDo, Txn: 1, Page: 2, Root: 4, Op: api.Op{Kind: 1, Data: spread([]byte("key"), 77)}},
	}
}

// spoil changes all the memory that a record has.
func spoil(r api.Record) {
	flip := func(b []byte) {
		b = b[:cap(b)]
		for i := range b {
			b[i] ^= 0xA5
		}
	}
	flip(r.Op.Data)
	for i := range r.Images {
		for k := range r.Images[i].To.Cells {
			flip(r.Images[i].To.Cells[k].Data)
			r.Images[i].To.Cells[k] = api.Cell{}
		}
		r.Images[i] = api.Image{Page: 99}
	}
	for i := range r.Lives {
		r.Lives[i] = api.Live{Txn: 99}
	}
	for i := range r.Dirty {
		r.Dirty[i] = api.Dirty{Page: 99}
	}
}

// P10.7: what is handed to Append is not changed, nor kept.
func TestAppendMemory(t *testing.T) {
	d := formatted(t, 19, 16)
	l := opens(t, d)
	handed := kinds()
	for _, r := range handed {
		r.LSN = 12345
		appends(t, l, r, l.End())
	}
	for i, r := range kinds() {
		if !bytes.Equal(bytesOf(handed[i]), bytesOf(r)) {
			t.Fatalf("Append changed what it was handed: %+v", handed[i])
		}
		if more := handed[i].Images; cap(more) > len(more) && more[:len(more)+1][len(more)].Page != 77 {
			t.Fatal("Append changed what lies behind the images")
		}
		if more := handed[i].Dirty; cap(more) > len(more) && more[:len(more)+1][len(more)].Page != 77 {
			t.Fatal("Append changed what lies behind the dirty pages")
		}
		spoil(handed[i])
	}
	is(t, "Flush", l.Flush(), api.OK)
	opens(t, d, placed(1, kinds()...)...)
}

// P10.7: what Open answers is new memory: neither the log, nor another answer, nor the disk has it.
func TestOpenMemory(t *testing.T) {
	d := diskWith(t, 16, 1, streamOf(kinds()...))
	want := placed(1, kinds()...)
	l, one, e := Open(d)
	is(t, "Open", e, api.OK)
	_, two, e := Open(d)
	is(t, "Open", e, api.OK)
	for i := range one {
		spoil(one[i])
		one[i] = api.Record{Kind: 77, LSN: 77}
	}
	asksRecords(t, two, want)
	for _, r := range want {
		is(t, "Mark", l.Mark(r.LSN), api.OK)
	}
	is(t, "Mark", l.Mark(77), api.ErrArg)
	appends(t, l, begin(1), l.End())
	is(t, "Flush", l.Flush(), api.OK)
	opens(t, d, append(want, placed(uint64(1+len(streamOf(kinds()...))), begin(1))...)...)
}

// P10.7: records that were answered share no memory with one another.
func TestRecordsMemory(t *testing.T) {
	records := append(kinds(), kinds()...)
	d := diskWith(t, 16, 1, streamOf(records...))
	for i := range records {
		_, got, e := Open(d)
		is(t, "Open", e, api.OK)
		spoil(got[i])
		for k := range got {
			if k != i && !bytes.Equal(bytesOf(got[k]), bytesOf(records[k])) {
				t.Fatalf("records %d and %d share memory", i, k)
			}
		}
	}
}

// P1: what a log answers hangs on its own disk alone: two logs side by side do not meet.
func TestTwoLogs(t *testing.T) {
	one, two := formatted(t, 19, 16), formatted(t, 30, 20)
	l, k := opens(t, one), opens(t, two)
	var first, second []api.Record
	for i := range 30 {
		first, second = append(first, sized(100+i, i)), append(second, sized(300-i, i+1))
		appends(t, l, first[i], l.End())
		appends(t, k, second[i], k.End())
		if i%3 == 0 {
			is(t, "Flush", l.Flush(), api.OK)
		}
		if i%5 == 0 {
			is(t, "Flush", k.Flush(), api.OK)
		}
	}
	is(t, "Flush", l.Flush(), api.OK)
	is(t, "Flush", k.Flush(), api.OK)
	opens(t, one, placed(1, first...)...)
	opens(t, two, placed(1, second...)...)
}

// P1: a log whose disk was cut, or that was answered ErrDark, is to be thrown away; and yet its calls end, and none panics.
func TestThrownAway(t *testing.T) {
	for seed := range 200 {
		pick := picker(uint64(seed))
		d := formatted(t, 18, 16)
		l := opens(t, d)
		for range 60 {
			switch pick(9) {
			case 0:
				d.Trip(pick(6))
			case 1:
				d.Cut(pick(2) == 0, pick(2) == 0)
			case 2:
				l.Reset(uint32(pick(100)))
			case 3:
				l.Mark(uint64(pick(3000)))
			case 4, 5:
				l.Flush()
			default:
				l.Append(sized(4+pick(700), seed))
			}
			if got := factsOf(l); got.room < 0 || got.room > 8160 || got.durable > got.end || got.base > got.durable {
				t.Fatalf("%+v", got)
			}
		}
	}
}
