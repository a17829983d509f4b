package record

import (
	"bytes"
	"fmt"
	"slices"
	"testing"

	"cadastre/api"
)

// spreadBytes are bytes that are alike, with others behind their length, in the same memory.
func spreadBytes(b []byte, behind byte) []byte {
	return append(bytes.Clone(b), bytes.Repeat([]byte{behind}, 16)...)[:len(b)]
}

// spread is a record that is alike, with other items behind the lengths of its lists, in the same memory.
func spread(r api.Record, behind byte) api.Record {
	r = twin(r)
	r.Op.Data = spreadBytes(r.Op.Data, behind)
	for i := range r.Images {
		cells := r.Images[i].To.Cells
		for k := range cells {
			cells[k].Data = spreadBytes(cells[k].Data, behind)
		}
		more := slices.Repeat([]api.Cell{{Used: behind > 0, Killer: uint32(behind), Data: bytes.Repeat([]byte{behind}, int(behind))}}, 5)
		r.Images[i].To.Cells = append(cells, more...)[:len(cells)]
	}
	images := slices.Repeat([]api.Image{image(1<<31+uint32(behind), heapKind)}, 3)
	r.Images = append(r.Images, images...)[:len(r.Images)]
	r.Lives = append(r.Lives, lives(1<<31+uint32(behind), 3)...)[:len(r.Lives)]
	r.Dirty = append(r.Dirty, dirties(1<<31+uint32(behind), 3)...)[:len(r.Dirty)]
	return r
}

// whole is a record with all that lies behind its lists' lengths, written out.
func whole(r api.Record) string {
	r.Images, r.Lives, r.Dirty = slices.Clone(r.Images[:cap(r.Images)]), r.Lives[:cap(r.Lives)], r.Dirty[:cap(r.Dirty)]
	r.Op.Data = r.Op.Data[:cap(r.Op.Data)]
	for i := range r.Images {
		cells := slices.Clone(r.Images[i].To.Cells[:cap(r.Images[i].To.Cells)])
		for k := range cells {
			cells[k].Data = cells[k].Data[:cap(cells[k].Data)]
		}
		r.Images[i].To.Cells = cells
	}
	return fmt.Sprintf("%+v", r)
}

// spoil changes bytes, up to the end of the memory that they have.
func spoil(b []byte) {
	b = b[:cap(b)]
	for i := range b {
		b[i] ^= 0xA5
	}
}

// spoilRecord changes all the memory that a record has.
func spoilRecord(r api.Record) {
	spoil(r.Op.Data)
	for i := range r.Images[:cap(r.Images)] {
		image := &r.Images[:cap(r.Images)][i]
		cells := image.To.Cells[:cap(image.To.Cells)]
		for k := range cells {
			spoil(cells[k].Data)
			cells[k] = api.Cell{Used: !cells[k].Used, Killer: cells[k].Killer + 77}
		}
		*image = api.Image{Page: image.Page + 77}
	}
	for i := range r.Lives[:cap(r.Lives)] {
		r.Lives[:cap(r.Lives)][i] = api.Live{Txn: 77, Undo: 77}
	}
	for i := range r.Dirty[:cap(r.Dirty)] {
		r.Dirty[:cap(r.Dirty)][i] = api.Dirty{Page: 77, From: 77}
	}
}

// moreSamples are samples, and records that come of them that may not be.
func moreSamples() []api.Record {
	all := samples()
	for _, r := range samples() {
		for _, make := range []change{func(r *api.Record) { r.Kind++ }, func(r *api.Record) { r.Txn = 0 }, func(r *api.Record) { r.Next++ }, func(r *api.Record) { r.Op.Slot-- }} {
			q := twin(r)
			make(&q)
			all = append(all, q)
		}
	}
	return all
}

// P9.3: what is handed in stays, and so does what lies behind its length, which is not read either.
func TestRecordsStay(t *testing.T) {
	calls := []func(r api.Record) string{
		func(r api.Record) string { return fmt.Sprint(May(r)) },
		func(r api.Record) string { return fmt.Sprint(Size(r)) },
		func(r api.Record) string { b, e := Encode(r); return fmt.Sprint(b, int(e)) },
	}
	for _, r := range moreSamples() {
		for i, call := range calls {
			var answers []string
			for _, behind := range []byte{0, 0xAA} {
				handed := spread(r, behind)
				before := whole(handed)
				answers = append(answers, call(handed))
				if whole(handed) != before {
					t.Fatalf("call %d of %s has changed what it was handed", i, shown(r))
				}
			}
			if answers[0] != answers[1] {
				t.Fatalf("call %d of %s hangs on what lies behind the lengths: %s, %s", i, shown(r), answers[0], answers[1])
			}
		}
	}
}

// P9.3: the bytes that Decode is handed stay, and so do those behind their length, which are not read either.
func TestBytesStay(t *testing.T) {
	for _, r := range samples() {
		b := textOf(r)
		for n := range len(b) + 1 {
			var answers []string
			for _, behind := range [][]byte{b[n:], bytes.Repeat([]byte{0xAA}, len(b)-n)} {
				memory := slices.Concat(b[:n], behind, []byte{0x55})
				before := bytes.Clone(memory)
				q, size, e := Decode(memory[:n])
				answers = append(answers, fmt.Sprintf("%+v %d %d", q, size, int(e)))
				if !bytes.Equal(memory, before) {
					t.Fatalf("Decode(%x) has changed what it was handed", b[:n])
				}
			}
			if answers[0] != answers[1] {
				t.Fatalf("Decode(%x) hangs on what lies behind the length: %s, %s", b[:n], answers[0], answers[1])
			}
		}
	}
}

// P9.3: what Encode answers is new memory: neither the record's nor an earlier answer's.
func TestEncodeIsNew(t *testing.T) {
	for _, r := range samples() {
		handed, want := spread(r, 0xAA), textOf(r)
		first, _ := Encode(handed)
		second, _ := Encode(handed)
		spoil(first)
		if !bytes.Equal(second, want) || !same(handed, r) {
			t.Fatalf("Encode(%s): two answers, or an answer and what was handed in, share memory", shown(r))
		}
		spoilRecord(handed)
		if !bytes.Equal(second, want) {
			t.Fatalf("Encode(%s): what was handed in is kept", shown(r))
		}
	}
}

// P9.3: what Decode answers is new memory: neither that of the bytes nor an earlier answer's.
func TestDecodeIsNew(t *testing.T) {
	for _, r := range samples() {
		handed := spreadBytes(textOf(r), 0xAA)
		first, _, _ := Decode(handed)
		second, _, _ := Decode(handed)
		spoilRecord(first)
		if !same(second, r) || !bytes.Equal(handed, textOf(r)) {
			t.Fatalf("Decode of %s: two answers, or an answer and what was handed in, share memory", shown(r))
		}
		spoil(handed)
		if !same(second, r) {
			t.Fatalf("Decode of %s: what was handed in is kept", shown(r))
		}
	}
}

// P9.3: of an answer each list is its own, up to the end of the memory that it has.
func TestListsApart(t *testing.T) {
	pages := shape()
	for n := range uint32(20) {
		pages.Images = append(pages.Images, image(n+1, heapKind, cell("one"), unused, cell("two"), dead(7, "three")))
	}
	decoded, _, e := Decode(textOf(pages))
	if e != api.OK || !same(decoded, pages) {
		t.Fatalf("Decode of %s: %s, %d", shown(pages), shown(decoded), int(e))
	}
	for i := range decoded.Images {
		cells := decoded.Images[i].To.Cells
		for k := range cells {
			want := twin(pages)
			wanted := want.Images[i].To.Cells[k].Data
			for at := range wanted {
				wanted[at] ^= 0xA5
			}
			spoil(cells[k].Data)
			if !same(decoded, want) {
				t.Fatalf("the cell %d of the image %d shares memory with another one", k, i)
			}
			spoil(cells[k].Data)
		}
		_ = append(cells, cell("behind"))
		if !same(decoded, pages) {
			t.Fatalf("what lies behind the cells of the image %d is another one's", i)
		}
	}
	checked := check(lives(1, 9), dirties(1, 9), 5)
	decoded, _, _ = Decode(textOf(checked))
	_, _ = append(decoded.Lives, lives(50, 9)...), append(decoded.Dirty, dirties(50, 9)...)
	if !same(decoded, checked) {
		t.Fatal("the lists of a RecCheck share memory")
	}
}

// What a call answers hangs on what it was handed alone: not on the calls ahead of it.
func TestAnswersStay(t *testing.T) {
	for range 3 {
		for _, r := range moreSamples() {
			asks(t, r, textOf(r))
			decodes(t, rawBytes(r))
		}
	}
}
