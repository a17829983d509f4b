package record

import (
	"bytes"
	"encoding/binary"
	"math"
	"slices"
	"testing"

	"cadastre/api"
)

// decodes asks what Decode answers of bytes: what the chapter's words say.
func decodes(t *testing.T, b []byte) (api.Record, api.Errno) {
	t.Helper()
	want, size, wantError := decoded(b)
	got, n, e := Decode(b)
	if e != wantError || n != size || !same(got, want) {
		t.Fatalf("Decode(%x): %s, %d, %d, want %s, %d, %d", b, shown(got), n, int(e), shown(want), size, int(wantError))
	}
	return got, e
}

// refuses asks that Decode answers an error, and nothing beside it.
func refuses(t *testing.T, b []byte, want api.Errno) {
	t.Helper()
	if got, n, e := Decode(b); e != want || n != 0 || !none(got) {
		t.Fatalf("Decode(%x): %s, %d, %d, want %d", b, shown(got), n, int(e), int(want))
	}
}

// P9.2: known bytes, the chapter's examples first.
func TestDecodeKnown(t *testing.T) {
	do := []byte{12, 0, 2, 1, 0, 2, 0, 1, 0, 0, 1, 'a'}
	refuses(t, do[:11], api.ErrNone)
	refuses(t, []byte{2, 0}, api.ErrForm)
	refuses(t, nil, api.ErrNone)
	for _, c := range []struct {
		b    []byte
		want api.Record
		n    int
	}{
		{do, api.Record{Kind: recDo, Txn: 1, Page: 2, Op: put(0, "a")}, 12},
		{[]byte{5, 0, 1, 0xac, 2}, begin(300), 5},
		{[]byte{5, 0, 1, 0xac, 2, 5}, begin(300), 5},
		{[]byte{4, 0, 1, 1, 255, 255, 255}, begin(1), 4},
		{[]byte{14, 0, 3, 5, 0xac, 2, 0xc8, 1, 7, 0, 3, 3, 0, 0}, undid(0, wake(3)), 14},
		{[]byte{18, 0, 4, 1, 6, 1, 0xac, 2, 3, 2, 0, 'a', 'b', 0, 1, 0xac, 2, 'c'}, shape(image(6, heapKind, cell("ab"), unused, dead(300, "c"))), 18},
		{[]byte{6, 0, 8, 0, 0, 0}, check(nil, nil, 0), 6},
		{[]byte{20, 0, 8, 2, 1, 0xac, 2, 2, 1, 7, 8, 0, 0, 2, 2, 0xac, 2, 3, 0, 9}, check([]api.Live{{Txn: 1, Last: 300, Undo: 2, Lost: true}, {Txn: 7, Last: 8}}, []api.Dirty{{Page: 2, From: 300}, {Page: 3}}, 9), 20},
	} {
		if got, n, e := Decode(c.b); e != api.OK || n != c.n || !same(got, c.want) {
			t.Errorf("Decode(%x): %s, %d, %d, want %s, %d", c.b, shown(got), n, int(e), shown(c.want), c.n)
		}
	}
}

// P9.2: the first two bytes, each pair of them, with few bytes behind them and with many: the number is asked ahead of whether they are there.
func TestDecodeLengths(t *testing.T) {
	refuses(t, []byte{}, api.ErrNone)
	for x := range 256 {
		refuses(t, []byte{byte(x)}, api.ErrNone)
	}
	noughts := make([]byte, 1<<16)
	for n := range 1 << 16 {
		b := noughts
		binary.LittleEndian.PutUint16(b, uint16(n))
		e := api.ErrNone
		if n < 3 || n > 16384 {
			e = api.ErrForm
		}
		refuses(t, b[:2], e)
		refuses(t, b[:max(2, min(n, 16384)-1)], e)
		refuses(t, b[:max(2, n)], api.ErrForm)
	}
}

// P9.4: Decode of Encode's bytes, whatever stands behind them, is the record; of each shorter beginning it is ErrNone.
func thereAndBack(t *testing.T, r api.Record) []byte {
	t.Helper()
	b, e := Encode(r)
	if e != api.OK || !bytes.Equal(b, textOf(r)) {
		t.Fatalf("Encode(%s): %x, %d", shown(r), b, int(e))
	}
	for _, behind := range [][]byte{nil, {0}, {255}, {3, 0, 1}, b, make([]byte, 100), bytes.Repeat([]byte{0x80}, 12)} {
		got, n, e := Decode(slices.Concat(b, behind))
		if e != api.OK || n != len(b) || !same(got, without(r)) {
			t.Fatalf("Decode(%x), of %s: %s, %d, %d", b, shown(r), shown(got), n, int(e))
		}
		again, e := Encode(got)
		if e != api.OK || !bytes.Equal(again, b) {
			t.Fatalf("Encode of what Decode(%x) answered: %x, %d", b, again, int(e))
		}
	}
	return b
}

// P9.4: of records of each kind, and of those that come of them by a change or two.
func TestThereAndBackAll(t *testing.T) {
	for _, r := range samples() {
		b := thereAndBack(t, r)
		for n := range b {
			refuses(t, b[:n], api.ErrNone)
		}
		for _, one := range changes() {
			changed := twin(r)
			one(&changed)
			if len(textOf(changed)) > 0 {
				thereAndBack(t, changed)
			}
		}
	}
	for _, size := range []int{16383, 16384} {
		thereAndBack(t, checkOf(size))
		thereAndBack(t, shapeOf(size))
	}
}

// P9.4, P9.5: of many records; those that differ in what they use have bytes that differ.
func TestThereAndBackMany(t *testing.T) {
	pick := picker(1)
	seen := map[string]api.Record{}
	kinds := [9]int{}
	for range 20000 {
		r := someRecord(pick)
		b := string(thereAndBack(t, r))
		if q, ok := seen[b]; ok && !same(without(q), without(r)) {
			t.Fatalf("%s and %s have the same bytes", shown(q), shown(r))
		}
		seen[b] = r
		kinds[r.Kind]++
	}
	for kind := 1; kind <= 8; kind++ {
		if kinds[kind] < 1000 {
			t.Errorf("%d records of the kind %d: not a test", kinds[kind], kind)
		}
	}
	if len(seen) < 10000 {
		t.Errorf("%d records: not a test", len(seen))
	}
}

// P9.5: each field that is used, bit by bit, is seen in the bytes, and comes back.
func TestBitsDiffer(t *testing.T) {
	var all []api.Record
	deed, undo := did(9, killOf("k", 4)), undid(9, wakeOf("k"))
	page := shape(image(2, leafKind, cell("k")), image(1<<31, heapKind))
	checked := check([]api.Live{{Txn: 1}, {Txn: math.MaxUint32, Last: 3, Undo: 4}}, []api.Dirty{{Page: math.MaxUint32}}, 7)
	for bit := range 64 {
		for _, r := range []api.Record{ended(recCommit, 3, 0), deed, undo} {
			r.Prev = 1 << bit
			all = append(all, r)
		}
		undo.Undo = 1 << bit
		r := twin(checked)
		r.Lives[1].Last = 1 << bit
		q := twin(checked)
		q.Lives[1].Undo = 1 << bit
		p := twin(checked)
		p.Dirty[0].From = 1 << bit
		all = append(all, undo, r, q, p)
	}
	for bit := range 32 {
		x := uint32(1) << bit
		for _, r := range []api.Record{begin(3), ended(recAbort, 3, 99), deed, undo} {
			r.Txn = x
			all = append(all, r)
		}
		one, two, three, four := deed, deed, deed, undo
		one.Page, two.Root, three.Op.Txn, four.Page = x, x, x, x
		p, q, r := twin(page), twin(page), twin(page)
		p.Images[0].To.Next, q.Images[1].Page, r.Images[0].To.Cells[0].Killer = x, max(3, x), x
		a, b, c := twin(checked), twin(checked), twin(checked)
		a.Next, b.Dirty[0].Page, c.Lives = x, x, []api.Live{{Txn: x}}
		all = append(all, one, two, three, four, p, q, r, a, b, c)
	}
	for slot := range 60 {
		all = append(all, did(0, put(slot, "a")), did(0, kill(slot, 4)), undid(0, wake(slot)), undid(0, free(slot)))
	}
	for i := range 256 {
		all = append(all, did(0, put(0, string([]byte{1, byte(i)}))), shape(image(2, heapKind, cell(string([]byte{1, byte(i)})))))
	}
	seen := map[string]api.Record{}
	for _, r := range all {
		b := string(thereAndBack(t, r))
		if q, ok := seen[b]; ok && !same(q, r) {
			t.Fatalf("%s and %s have the same bytes", shown(q), shown(r))
		}
		seen[b] = r
	}
}

// P9.5: records' bytes, one's behind the other's, are taken apart into just these records.
func TestStream(t *testing.T) {
	pick := picker(2)
	for range 60 {
		var all []api.Record
		var stream []byte
		for range pick(60) {
			r := without(someRecord(pick))
			if pick(3) == 0 {
				r = samples()[pick(len(samples()))]
			}
			b, _ := Encode(r)
			all, stream = append(all, r), append(stream, b...)
		}
		for i, want := range all {
			r, n, e := Decode(stream)
			if e != api.OK || !same(r, want) || n != Size(want) {
				t.Fatalf("record %d of a stream: %s, %d, %d, want %s", i, shown(r), n, int(e), shown(want))
			}
			stream = stream[n:]
		}
		refuses(t, stream, api.ErrNone)
	}
}

// P9.2, P9.4: each byte of records, changed to every other one: whatever is read is what the chapter's words say.
func TestChangedBytes(t *testing.T) {
	for _, r := range samples() {
		b := textOf(r)
		for at := range b {
			if at > 60 && at%23 > 0 {
				continue
			}
			for x := range 256 {
				changed := bytes.Clone(b)
				changed[at] = byte(x)
				decodes(t, changed)
			}
		}
	}
}

// P9.2: bytes taken out of records, and put into them, with the length made good.
func TestCutAndWidened(t *testing.T) {
	for _, r := range samples() {
		b := textOf(r)
		for at := 2; at <= len(b); at++ {
			if at > 60 && at%23 > 0 {
				continue
			}
			decodes(t, withLength(bytes.Clone(b[:at])))
			for _, more := range []byte{0, 1, 2, 127, 128, 129, 255} {
				decodes(t, withLength(slices.Concat(b[:at], []byte{more}, b[at:])))
				decodes(t, withLength(slices.Concat(b[:at], []byte{more, more}, b[at:])))
			}
			if at < len(b) {
				decodes(t, withLength(slices.Concat(b[:at], b[at+1:])))
				// What stood there is counted in more bytes than it needs, if it is a number.
				decodes(t, withLength(slices.Concat(b[:at], []byte{b[at] | 128, 0}, b[at+1:])))
				// Or it is greater by all that lies beyond 32 bits, or beyond 64.
				decodes(t, withLength(slices.Concat(b[:at], []byte{b[at] | 128, 128, 128, 128, 16}, b[at+1:])))
				decodes(t, withLength(slices.Concat(b[:at], []byte{b[at] | 128, 128, 128, 128, 128, 128, 128, 128, 128, 1}, b[at+1:])))
				decodes(t, withLength(slices.Concat(b[:at], []byte{b[at] | 128, 128, 128, 128, 128, 128, 128, 128, 128, 2}, b[at+1:])))
			}
		}
	}
}

// P9.2: numbers that are not in their one form, or beyond their bits, written out, by the field.
func TestWrongNumbers(t *testing.T) {
	wide := []byte{0x81, 0x80, 0x80, 0x80, 0x10} // 2^32 + 1
	behind := func(parts ...[]byte) []byte { return withLength(slices.Concat(append([][]byte{{0, 0}}, parts...)...)) }
	for i, b := range [][]byte{
		behind([]byte{1}, wide),                                                                     // a Begin's Txn
		behind([]byte{1, 0x81, 0}),                                                                  // the same, in two bytes for one
		behind([]byte{5}, wide, []byte{0}),                                                          // a Commit's Txn
		behind([]byte{5, 1, 0x80, 0}),                                                               // its Prev
		behind([]byte{5, 1, 255, 255, 255, 255, 255, 255, 255, 255, 255, 2}),                        // beyond 64 bits
		behind([]byte{2, 1, 0}, wide, []byte{0, 1, 0, 0, 1, 'a'}),                                   // a Do's Page
		behind([]byte{2, 1, 0, 2}, wide, []byte{1, 0, 0, 1, 'a'}),                                   // its Root
		behind([]byte{2, 1, 0, 2, 0, 1}, wide, []byte{0, 1, 'a'}),                                   // its Slot
		behind([]byte{2, 1, 0, 2, 0, 1, 255, 255, 255, 255, 255, 255, 255, 255, 255, 1, 0, 1, 'a'}), // the Slot -1
		behind([]byte{2, 1, 0, 2, 0, 2, 0}, wide, []byte{0}),                                        // its Kill's Txn
		behind([]byte{2, 1, 0, 2, 0, 1, 0, 0}, wide, []byte{'a'}),                                   // how many bytes its Data has
		behind([]byte{2, 1, 0, 2, 0, 1, 0, 0, 0x81, 0, 'a'}),
		behind([]byte{4}, wide, []byte{6, 1, 0, 0}),            // how many images
		behind([]byte{4, 1}, wide, []byte{1, 0, 0}),            // an image's Page
		behind([]byte{4, 1, 6, 1}, wide, []byte{0}),            // its Next
		behind([]byte{4, 1, 6, 1, 0}, wide, []byte{1, 0, 'a'}), // how many cells
		behind([]byte{4, 1, 6, 1, 0, 1}, wide, []byte{0, 'a'}), // how many bytes of a cell
		behind([]byte{4, 1, 6, 1, 0, 1, 255, 255, 255, 255, 255, 255, 255, 255, 255, 1, 0, 'a'}),
		behind([]byte{4, 1, 6, 1, 0, 1, 1}, wide, []byte{'a'}), // its Killer
		behind([]byte{8}, wide, []byte{1, 2, 3, 0, 0, 0}),      // how many Lives
		behind([]byte{8, 1}, wide, []byte{2, 3, 0, 0, 0}),      // a Live's Txn
		behind([]byte{8, 1, 1, 2, 3, 2, 0, 0}),                 // its Lost
		behind([]byte{8, 1, 1, 2, 3, 255, 0, 0}),
		behind([]byte{8, 1, 1, 2, 3, 0x80, 0, 0, 0}),
		behind([]byte{8, 0}, wide, []byte{1, 2, 0}), // how many Dirty
		behind([]byte{8, 0, 1}, wide, []byte{2, 0}), // a Dirty's Page
		behind([]byte{8, 0, 0}, wide),               // a Check's Next
		behind([]byte{8, 0, 0, 0, 0}),               // one byte more
		behind([]byte{8, 0, 0}),                     // one less
	} {
		if _, ok := recordOf(b); ok {
			t.Fatalf("%d: %x is a record's: not a test", i, b)
		}
		refuses(t, b, api.ErrForm)
	}
}

// P9.2: lists that say how many they are, and have fewer; however many they say, Decode ends, and soon.
func TestCountsTooGreat(t *testing.T) {
	for _, count := range [][]byte{{2}, {127}, {0xff, 0x7f}, {255, 255, 255, 255, 15}, {255, 255, 255, 255, 255, 255, 255, 255, 255, 1}, {255, 255, 255, 255, 255, 255, 255, 255, 127}} {
		for _, b := range [][]byte{
			slices.Concat([]byte{0, 0, 4}, count),
			slices.Concat([]byte{0, 0, 4}, count, []byte{6, 1, 0, 0}),
			slices.Concat([]byte{0, 0, 4, 1, 6, 1, 0}, count),
			slices.Concat([]byte{0, 0, 4, 1, 6, 1, 0}, count, []byte{1, 0, 'a'}),
			slices.Concat([]byte{0, 0, 4, 1, 6, 1, 0}, count, make([]byte, 16000)),
			slices.Concat([]byte{0, 0, 4, 1, 6, 1, 0, 1}, count, []byte{0}),
			slices.Concat([]byte{0, 0, 4, 1, 6, 1, 0, 1}, count, []byte{0, 'a'}),
			slices.Concat([]byte{0, 0, 8}, count, []byte{1, 0, 0, 0}),
			slices.Concat([]byte{0, 0, 8}, count, make([]byte, 16000)),
			slices.Concat([]byte{0, 0, 8, 0}, count, []byte{1, 0, 0}),
			slices.Concat([]byte{0, 0, 2, 1, 0, 2, 0, 1, 0, 0}, count, []byte{'a'}),
		} {
			refuses(t, withLength(b), api.ErrForm)
		}
	}
}

// P9.2: all that may stand behind the length, up to five bytes of some.
func TestAllShort(t *testing.T) {
	letters := []byte{0, 1, 2, 3, 4, 5, 7, 8, 9, 127, 128, 255}
	records := 0
	var ask func(b []byte, more int)
	ask = func(b []byte, more int) {
		if _, e := decodes(t, withLength(b)); e == api.OK {
			records++
		}
		if more == 0 {
			return
		}
		for _, x := range letters {
			ask(append(slices.Clip(b), x), more-1)
		}
	}
	ask([]byte{0, 0}, 5)
	if records < 1000 {
		t.Errorf("%d records: not a test", records)
	}
}

// P9.2, P9.4: bytes that grow out of records by chance.
func TestSpoiltMany(t *testing.T) {
	pick := picker(3)
	records := 0
	for range 60000 {
		b := textOf(someRecord(pick))
		for range 1 + pick(3) {
			at := 2 + pick(min(len(b)-2, 40))
			b[at] = byte(pick(256))
		}
		r, e := decodes(t, b)
		if e != api.OK {
			continue
		}
		records++
		if again, e := Encode(r); e != api.OK || !bytes.Equal(again, b) {
			t.Fatalf("Encode of what Decode(%x) answered: %x, %d", b, again, int(e))
		}
	}
	if records < 5000 || records > 55000 {
		t.Errorf("%d records: not a test", records)
	}
}
