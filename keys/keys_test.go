package keys

import (
	"bytes"
	"cmp"
	"encoding/binary"
	"encoding/hex"
	"math"
	"regexp"
	"slices"
	"strings"
	"testing"

	"cadastre/api"
)

const (
	least    = math.MinInt64
	greatest = math.MaxInt64
)

// The values are written out field by field, so that nothing of the program is in what the tests want.
var (
	null = api.Value{Kind: 0}
	no   = api.Value{Kind: 3, N: 0}
	yes  = api.Value{Kind: 3, N: 1}
)

func num(n int64) api.Value               { return api.Value{Kind: 1, N: n} }
func text(s string) api.Value             { return api.Value{Kind: 2, S: s} }
func row(values ...api.Value) []api.Value { return values }

// long is a text of n bytes without 00.
func long(n int) string { return strings.Repeat("0123456789abcdef", n/16+1)[:n] }

// times is a row of a value n times.
func times(n int, v api.Value) []api.Value { return slices.Repeat([]api.Value{v}, n) }

// unhex is the text of bytes that are written in hexadecimal, with blanks between.
func unhex(t *testing.T, s string) string {
	t.Helper()
	b, err := hex.DecodeString(strings.ReplaceAll(s, " ", ""))
	if err != nil {
		t.Fatal(err)
	}
	return string(b)
}

// inOrder are values of all kinds, in their order; of the texts some are begun by others.
func inOrder() []api.Value {
	values := []api.Value{null, no, yes}
	for _, n := range []int64{
		least, least + 1, -1 << 56, -1<<32 - 1, -1 << 32, -1 << 31, -65536, -257, -256, -255, -2, -1,
		0, 1, 2, 5, 7, 255, 256, 257, 65535, 65536, 1 << 31, 1 << 32, 1<<32 + 1, 1 << 56, 1 << 62, greatest - 1, greatest,
	} {
		values = append(values, num(n))
	}
	for _, s := range []string{
		"", "\x00", "\x00\x00", "\x00\x00\x01", "\x00\x01", "\x00\x01\x00", "\x00\x02", "\x00\xff", "\x00\xff\x00", "\x01", "\x01\x00", "\x02", "\x05", "\x05a", "\x06",
		"a", "a\x00", "a\x00\x00", "a\x00\x01", "a\x00\x01\x05", "a\x00\x05", "a\x00b", "a\x00\xff", "a\x00\xff\x01", "a\x01", "a\x02", "aa", "ab", "abc", "a\xff", "a\xff\x00", "b",
		strings.Repeat("q", 63), strings.Repeat("q", 63) + "\x00", strings.Repeat("q", 64), strings.Repeat("q", 63) + "\xff", "\xfe", "\xff", "\xff\x00", "\xff\x00\xff", "\xff\x01", "\xff\xff", strings.Repeat("\xff", 64),
	} {
		values = append(values, text(s))
	}
	return values
}

// mayNot are values that may not be, of each cause.
func mayNot() []api.Value {
	return []api.Value{
		{Kind: 0, N: 1}, {Kind: 0, S: "a"}, {Kind: 1, S: "a"}, {Kind: 1, N: 7, S: "7"}, {Kind: 2, N: 1}, {Kind: 2, N: 1, S: "a"}, {Kind: 2, S: long(65)}, {Kind: 2, S: long(300)},
		{Kind: 2, S: strings.Repeat("\x00", 65)}, {Kind: 3, N: 2}, {Kind: 3, N: -1}, {Kind: 3, S: "a"}, {Kind: 3, N: 1, S: "true"}, {Kind: 3, N: 256}, {Kind: 3, N: 1<<32 + 1},
		{Kind: 4}, {Kind: 5}, {Kind: -1}, {Kind: 255}, {Kind: 256}, {Kind: 1 << 32}, {Kind: 4, N: 1, S: "a"}, {Kind: math.MaxInt}, {Kind: math.MinInt},
	}
}

// rank tells by the chapter's table which kinds stand ahead.
func rank(v api.Value) int { return []int{0, 2, 3, 1}[v.Kind] }

// order is the order of rows, by the chapter's words.
func order(a, b []api.Value) int {
	for i := range min(len(a), len(b)) {
		if x := cmp.Or(rank(a[i])-rank(b[i]), cmp.Compare(a[i].N, b[i].N), strings.Compare(a[i].S, b[i].S)); x != 0 {
			return cmp.Compare(x, 0)
		}
	}
	return cmp.Compare(len(a), len(b))
}

// begins tells whether r begins with p.
func begins(r, p []api.Value) bool { return len(r) >= len(p) && slices.Equal(r[:len(p)], p) }

// table is a row's key by the chapter's table, however long.
func table(r []api.Value) string {
	var key strings.Builder
	for _, v := range r {
		switch v.Kind {
		case 0:
			key.WriteString("\x01")
		case 3:
			key.WriteString([]string{"\x02", "\x03"}[v.N])
		case 1:
			var n [8]byte
			binary.BigEndian.PutUint64(n[:], uint64(v.N)+1<<63)
			key.WriteString("\x04" + string(n[:]))
		case 2:
			key.WriteString("\x05" + strings.ReplaceAll(v.S, "\x00", "\x00\xff") + "\x00\x01")
		}
	}
	return key.String()
}

// A form is what the table's bytes look like; a row's key is such a text within the limits.
var (
	oneValue = regexp.MustCompile(`01|02|03|04(..){8}|05((0[1-9a-f]|[1-9a-f].)|00ff)*0001`)
	whole    = regexp.MustCompile(`^(` + oneValue.String() + `)*$`)
)

// isKey tells by the forms, and the limits, whether a text is a row's key.
func isKey(key string) bool {
	in := hex.EncodeToString([]byte(key))
	if len(key) > 140 || !whole.MatchString(in) {
		return false
	}
	parts := oneValue.FindAllString(in, -1)
	for _, part := range parts {
		// A text's bytes: all but the mark and the end; a pair 00 ff is one.
		raw, _ := hex.DecodeString(part)
		if raw[0] == 5 && len(raw)-3-bytes.Count(raw, []byte{0, 0xff}) > 64 {
			return false
		}
	}
	return len(parts) <= 16
}

// encodes asks that a row's key is that, and that the key is its row's.
func encodes(t *testing.T, r []api.Value, want string) {
	t.Helper()
	key, e := Encode(r)
	if key != want || e != api.OK {
		t.Fatalf("Encode(%+v): %x, %d, want %x", r, key, int(e), want)
	}
	back, e := Decode(want)
	if !slices.Equal(back, r) || e != api.OK {
		t.Fatalf("Decode(%x): %+v, %d, want %+v", want, back, int(e), r)
	}
}

// refuses asks that Encode, From and To answer an error, and nothing beside it.
func refuses(t *testing.T, r []api.Value, want api.Errno) {
	t.Helper()
	if key, e := Encode(r); key != "" || e != want {
		t.Errorf("Encode(%+v): %x, %d, want %d", r, key, int(e), int(want))
	}
	for _, in := range []bool{false, true} {
		if key, e := From(r, in); key != "" || e != want {
			t.Errorf("From(%+v, %v): %x, %d, want %d", r, in, key, int(e), int(want))
		}
		if key, e := To(r, in); key != "" || e != want {
			t.Errorf("To(%+v, %v): %x, %d, want %d", r, in, key, int(e), int(want))
		}
	}
}

// noKey asks that Decode refuses a text, and answers nothing beside it.
func noKey(t *testing.T, key string) {
	t.Helper()
	if r, e := Decode(key); len(r) != 0 || e != api.ErrForm {
		t.Fatalf("Decode(%x): %+v, %d", key, r, int(e))
	}
}

// P4.1, P4.2, P4.6: known keys, those of the chapter's examples first.
func TestKnown(t *testing.T) {
	for _, c := range []struct {
		row []api.Value
		key string
	}{
		{row(null, yes, num(1), text("a")), "01 03 04 80 00 00 00 00 00 00 01 05 61 00 01"},
		{row(num(-1)), "04 7f ff ff ff ff ff ff ff"},
		{row(num(least)), "04 00 00 00 00 00 00 00 00"},
		{row(text("\x00\xff")), "05 00 ff ff 00 01"},
		{row(), ""},
		{nil, ""},
		{row(no, no), "02 02"},
		{row(null), "01"},
		{row(no), "02"},
		{row(yes), "03"},
		{row(num(0)), "04 80 00 00 00 00 00 00 00"},
		{row(num(1)), "04 80 00 00 00 00 00 00 01"},
		{row(num(greatest)), "04 ff ff ff ff ff ff ff ff"},
		{row(num(0x0102030405060708)), "04 81 02 03 04 05 06 07 08"},
		{row(num(least + 0x1122334455667788)), "04 11 22 33 44 55 66 77 88"},
		{row(text("")), "05 00 01"},
		{row(text("\x00")), "05 00 ff 00 01"},
		{row(text("a\x00")), "05 61 00 ff 00 01"},
		{row(text("\xff")), "05 ff 00 01"},
		{row(text("\x00\x01")), "05 00 ff 01 00 01"},
		{row(text("\x00\x00")), "05 00 ff 00 ff 00 01"},
		{row(text("ab"), text("c")), "05 61 62 00 01 05 63 00 01"},
		{row(text(""), text(""), null), "05 00 01 05 00 01 01"},
		{row(num(-2), no, num(2)), "04 7f ff ff ff ff ff ff fe 02 04 80 00 00 00 00 00 00 02"},
	} {
		encodes(t, c.row, unhex(t, c.key))
	}
}

// P4.1, P4.2, P4.6: each value alone, each pair of values, and every byte in a text, against the chapter's table.
func TestByTable(t *testing.T) {
	values := inOrder()
	for x := range 256 {
		one := string([]byte{byte(x)})
		values = append(values, text(one), text("a"+one), text(one+"a"), text(strings.Repeat(one, 64)), num(int64(x)-128), num(int64(x)<<56), num(int64(x)<<24+7))
	}
	for _, a := range values {
		encodes(t, row(a), table(row(a)))
	}
	for _, a := range inOrder() {
		for _, b := range inOrder() {
			if pair := row(a, b); len(table(pair)) <= 140 {
				encodes(t, pair, table(pair))
			} else {
				refuses(t, pair, api.ErrWide)
			}
		}
	}
}

// P4.1, P4.2, P4.6: rows of every number of values up to 16; one more is too many.
func TestCounts(t *testing.T) {
	for n := range 17 {
		for _, v := range []api.Value{null, no, yes, text(""), text("a\x00")} {
			encodes(t, times(n, v), table(times(n, v)))
		}
	}
	for n := 17; n <= 20; n++ {
		refuses(t, times(n, null), api.ErrArg)
		noKey(t, strings.Repeat("\x01", n))
		noKey(t, strings.Repeat("\x05\x00\x01", n))
	}
	encodes(t, append(times(15, null), num(greatest)), strings.Repeat("\x01", 15)+"\x04"+strings.Repeat("\xff", 8))
	encodes(t, times(15, num(7)), table(times(15, num(7))))
	encodes(t, append(times(15, num(7)), text("ab")), table(append(times(15, num(7)), text("ab"))))
	refuses(t, append(times(15, num(7)), text("abc")), api.ErrWide)
	refuses(t, times(16, num(7)), api.ErrWide)
}

// P4.1, P4.2: texts of every length; keys of up to 140 bytes, and none of 141, from texts with and without 00.
func TestLengths(t *testing.T) {
	for n := range 65 {
		encodes(t, row(text(long(n))), "\x05"+long(n)+"\x00\x01")
		for m := range 65 {
			r := row(text(long(n)), text(strings.Repeat("\x00", m)))
			if len(table(r)) <= 140 {
				encodes(t, r, table(r))
				continue
			}
			refuses(t, r, api.ErrWide)
			noKey(t, table(r))
		}
	}
	encodes(t, row(text(long(64)), text(long(64))), table(row(text(long(64)), text(long(64)))))
	for n := range 10 {
		r := append(row(text(long(64)), text(long(64))), times(n, null)...)
		if n <= 6 { // 134 bytes, and one each
			encodes(t, r, table(r))
			continue
		}
		refuses(t, r, api.ErrWide)
		noKey(t, table(r))
	}
	refuses(t, row(text(long(64)), text(long(64)), text(long(4))), api.ErrWide)
	refuses(t, times(16, text(strings.Repeat("\x00", 64))), api.ErrWide)
	for n := 65; n < 150; n++ {
		noKey(t, "\x05"+long(n)+"\x00\x01")
	}
	noKey(t, "\x05"+strings.Repeat("\x00\xff", 65)+"\x00\x01")
	encodes(t, row(text(strings.Repeat("\x00", 64))), "\x05"+strings.Repeat("\x00\xff", 64)+"\x00\x01")
}

// P4.1: which error is named, where several apply: ErrArg, ErrForm, ErrWide.
func TestErrors(t *testing.T) {
	for _, bad := range mayNot() {
		refuses(t, row(bad), api.ErrForm)
		refuses(t, append(times(16, null), bad), api.ErrArg)
		refuses(t, append(row(bad), times(16, null)...), api.ErrArg)
		for place := range 16 {
			for _, v := range []api.Value{null, text(long(64)), num(7)} {
				r := times(16, v)
				r[place] = bad
				refuses(t, r, api.ErrForm)
			}
		}
		refuses(t, row(text(long(64)), text(long(64)), text(long(64)), bad), api.ErrForm)
	}
	refuses(t, times(17, text(long(64))), api.ErrArg)
	refuses(t, times(17, api.Value{Kind: 2, S: long(65)}), api.ErrArg)
	refuses(t, times(1<<16, null), api.ErrArg)
	refuses(t, times(1<<16+1, null), api.ErrArg)
	refuses(t, times(256, null), api.ErrArg)
}

// P4.2: texts that are no row's key, by cause.
func TestNoKey(t *testing.T) {
	for _, s := range []string{
		"00", "06", "07", "ff", "80", "fe", "01 00", "02 06", "03 ff", "04", "04 80", "04 80 00 00 00 00 00 00", "04 80 00 00 00 00 00 00 00 00", "01 04 80 00 00 00 00 00 00",
		"05", "05 61", "05 00", "05 61 00", "05 00 02", "05 00 00", "05 00 fe", "05 61 00 61 00 01", "05 00 ff", "05 00 ff 00", "05 00 ff 01", "05 61 00 01 00", "05 61 00 01 ff", "05 61 00 01 62",
		"05 00 01 00 01", "01 01 06", "01 05", "04 80 00 00 00 00 00 00 01 06", "05 00 80", "05 00 05", "05 61 00 00 01", "05 00 01 04",
	} {
		noKey(t, unhex(t, s))
		noKey(t, "\x01"+unhex(t, s))
		noKey(t, "\x05a\x00\xff\x00\x01"+unhex(t, s))
	}
	noKey(t, strings.Repeat("\x04", 1<<20))
	noKey(t, strings.Repeat("\x05", 1<<20))
	noKey(t, strings.Repeat("\x01", 1<<20))
	noKey(t, strings.Repeat("\x00", 141))
	noKey(t, strings.Repeat("\x05\x00\xff", 47))
}

// decodesByForm asks that Decode takes a text just if it has the form of a key, and that Encode writes what was read as it was.
func decodesByForm(t *testing.T, key string) {
	t.Helper()
	if !isKey(key) {
		noKey(t, key)
		return
	}
	r, e := Decode(key)
	if e != api.OK || table(r) != key {
		t.Fatalf("Decode(%x): %+v, %d", key, r, int(e))
	}
	encodes(t, r, key)
}

// P4.2, P4.6: all short texts of the bytes that mean something; every text of one byte and of two.
func TestShortTexts(t *testing.T) {
	for x := range 256 {
		decodesByForm(t, string([]byte{byte(x)}))
		for y := range 256 {
			decodesByForm(t, string([]byte{byte(x), byte(y)}))
			decodesByForm(t, string([]byte{5, byte(x), byte(y), 0, 1}))
			decodesByForm(t, string([]byte{5, 'a', 0, byte(x), byte(y)}))
			decodesByForm(t, string([]byte{4, byte(x), 1, 2, 3, 4, 5, 6, byte(y)}))
		}
	}
	var all func(key []byte, left int)
	all = func(key []byte, left int) {
		decodesByForm(t, string(key))
		if left == 0 {
			return
		}
		for _, x := range []byte{0, 1, 2, 4, 5, 6, 'a', 0xff} {
			all(append(slices.Clone(key), x), left-1)
		}
	}
	all(nil, 5)
}

// someRows are rows of all lengths, whose values hang on a seed.
func someRows(count int) [][]api.Value {
	values := inOrder()
	x := uint64(88172645463325252)
	next := func(n int) int {
		x ^= x << 13
		x ^= x >> 7
		x ^= x << 17
		return int(x >> 33 % uint64(n))
	}
	var rows [][]api.Value
	for len(rows) < count {
		var r []api.Value
		for range next(17) {
			r = append(r, values[next(len(values))])
		}
		if len(table(r)) <= 140 {
			rows = append(rows, r)
		}
	}
	return rows
}

// P4.2: keys of which a byte was changed, taken away, put in, and keys cut off anywhere.
func TestChangedKeys(t *testing.T) {
	rows := append(someRows(60), row(null, yes, num(1), text("a")), row(text("\x00\xff")), row(text(long(64)), text(long(64))), times(16, null))
	for _, r := range rows {
		key := []byte(table(r))
		decodesByForm(t, string(key))
		for at := range key {
			decodesByForm(t, string(key[:at]))
			decodesByForm(t, string(slices.Delete(slices.Clone(key), at, at+1)))
			for _, x := range []byte{0, 1, 2, 3, 4, 5, 6, 'a', 0x7f, 0x80, 0xff} {
				changed := slices.Clone(key)
				changed[at] = x
				decodesByForm(t, string(changed))
				decodesByForm(t, string(slices.Insert(slices.Clone(key), at, x)))
			}
		}
		for x := range 256 {
			decodesByForm(t, string(append(slices.Clone(key), byte(x))))
		}
	}
}

// P4.3: the ends of intervals, by Encode's key; a key of 140 bytes has ends too.
func TestEnds(t *testing.T) {
	rows := append(someRows(300), nil, row(), row(num(1)), row(null), row(text("")), append(row(text(long(64)), text(long(64))), times(6, null)...))
	for _, r := range rows {
		key := table(r)
		for _, c := range []struct {
			name string
			call func([]api.Value, bool) (string, api.Errno)
			in   bool
			want string
		}{
			{"From", From, true, key}, {"From", From, false, key + "\xff"}, {"To", To, true, key + "\xff"}, {"To", To, false, key},
		} {
			if got, e := c.call(r, c.in); got != c.want || e != api.OK {
				t.Errorf("%s(%+v, %v): %x, %d, want %x", c.name, r, c.in, got, int(e), c.want)
			}
		}
	}
	if got, e := From(row(num(1)), false); got != unhex(t, "04 80 00 00 00 00 00 00 01 ff") || e != api.OK {
		t.Errorf("From(1, false): %x, %d", got, int(e))
	}
	if got, e := To(row(num(1)), true); got != unhex(t, "04 80 00 00 00 00 00 00 01 ff") || e != api.OK {
		t.Errorf("To(1, true): %x, %d", got, int(e))
	}
}

// shortRows are all rows of up to two of some values, and longer ones that they begin.
func shortRows() [][]api.Value {
	few := row(null, no, yes, num(least), num(-1), num(0), num(1), num(256), num(greatest), text(""), text("\x00"), text("\x00\x01"), text("\x00\xff"), text("\x01"),
		text("a"), text("a\x00"), text("a\x00\x00"), text("a\x00\xff"), text("a\x01"), text("ab"), text("a\xff"), text("\xff"))
	rows := [][]api.Value{nil, times(16, null), append(times(15, null), no), times(15, null), append(times(15, num(1)), null), times(15, num(1))}
	for _, a := range few {
		rows = append(rows, row(a), row(a, null, null), row(a, text("a"), text("")), row(a, text("a"), text(""), null))
		for _, b := range few {
			rows = append(rows, row(a, b))
		}
	}
	return rows
}

// encoded are the keys of rows that have one.
func encoded(t *testing.T, rows [][]api.Value) []string {
	t.Helper()
	var keys []string
	for _, r := range rows {
		key, e := Encode(r)
		if e != api.OK {
			t.Fatalf("Encode(%+v): %d", r, int(e))
		}
		keys = append(keys, key)
	}
	return keys
}

// P4.4, P4.6: of all pairs of rows the keys stand as the rows do; of rows with as many values none begins another one.
func TestOrder(t *testing.T) {
	var singles [][]api.Value
	for i, a := range inOrder() {
		singles = append(singles, row(a))
		if i > 0 && order(singles[i-1], singles[i]) != -1 {
			t.Fatalf("not in order: %+v", a)
		}
	}
	for _, rows := range [][][]api.Value{singles, shortRows(), someRows(500)} {
		keys := encoded(t, rows)
		for i, a := range rows {
			for k, b := range rows {
				if got, want := strings.Compare(keys[i], keys[k]), order(a, b); got != want {
					t.Fatalf("%+v and %+v: keys %x and %x, order %d, want %d", a, b, keys[i], keys[k], got, want)
				}
				if len(a) == len(b) && !slices.Equal(a, b) && strings.HasPrefix(keys[i], keys[k]) {
					t.Fatalf("the key of %+v begins with that of %+v", a, b)
				}
			}
		}
	}
}

// P4.5: of all pairs of rows on which side of an interval's ends the keys stand.
func TestIntervals(t *testing.T) {
	rows := append(shortRows(), someRows(150)...)
	keys := encoded(t, rows)
	ends := func(call func([]api.Value, bool) (string, api.Errno), p []api.Value, in bool) string {
		end, e := call(p, in)
		if e != api.OK {
			t.Fatalf("an end of %+v: %d", p, int(e))
		}
		return end
	}
	for _, p := range rows {
		from, behind := ends(From, p, true), ends(From, p, false)
		with, to := ends(To, p, true), ends(To, p, false)
		for k, r := range rows {
			ahead, key := order(r, p) < 0, keys[k]
			if from <= key != !ahead || behind <= key != (!ahead && !begins(r, p)) {
				t.Fatalf("From of %+v, and %+v", p, r)
			}
			if with > key != (ahead || begins(r, p)) || to > key != ahead {
				t.Fatalf("To of %+v, and %+v", p, r)
			}
		}
	}
}

// P1: a row that is handed in stays as it is, and so does what lies behind its length, which is not read either.
func TestHandedIn(t *testing.T) {
	for _, bad := range append(mayNot(), null) {
		memory := row(null, num(-1), text("a\x00"), yes, bad, bad, bad, bad)
		kept := slices.Clone(memory)
		r := memory[:4]
		want := table(r)
		if key, e := Encode(r); key != want || e != api.OK {
			t.Errorf("Encode(%+v): %x, %d", r, key, int(e))
		}
		for _, in := range []bool{false, true} {
			From(r, in)
			To(r, in)
		}
		if !slices.Equal(memory, kept) {
			t.Errorf("what was handed in is %+v, was %+v", memory, kept)
		}
	}
}

// P1: what Decode answers is new memory each time, behind its length too.
func TestNewMemory(t *testing.T) {
	key := table(row(null, num(7), text("ab"), no))
	first, _ := Decode(key)
	second, _ := Decode(key)
	for i := range first[:cap(first)] {
		first[:cap(first)][i] = text("changed")
	}
	third, e := Decode(key)
	if want := row(null, num(7), text("ab"), no); e != api.OK || !slices.Equal(second, want) || !slices.Equal(third, want) {
		t.Errorf("Decode(%x): %+v, then %+v, %d", key, second, third, int(e))
	}
}
