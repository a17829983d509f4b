package rows

import (
	"encoding/binary"
	"encoding/hex"
	"slices"
	"strings"
	"testing"

	"cadastre/api"
)

// unhex is the text of bytes that are written in hexadecimal, with blanks between.
func unhex(t *testing.T, s string) string {
	t.Helper()
	b, err := hex.DecodeString(strings.ReplaceAll(s, " ", ""))
	if err != nil {
		t.Fatal(err)
	}
	return string(b)
}

// written is a row's text by the chapter's words, however long; the library's varint is code's signed number.
func written(r []api.Value) string {
	b := make([]byte, (len(r)+7)/8)
	for i, v := range r {
		if v.Kind == 0 {
			b[i/8] |= 1 << (i % 8)
		}
	}
	for _, v := range r {
		switch v.Kind {
		case 1:
			b = binary.AppendVarint(b, v.N)
		case 2:
			b = append(binary.AppendUvarint(b, uint64(len(v.S))), v.S...)
		case 3:
			b = append(b, byte(v.N))
		}
	}
	return string(b)
}

// readAs reads a text by the chapter's words, in whatever form the numbers are, and asks then that it be the row's text.
func readAs(cols []api.Column, s string) ([]api.Value, bool) {
	b := []byte(s)
	marks := (len(cols) + 7) / 8
	if len(b) < marks || len(b) > 160 {
		return nil, false
	}
	var r []api.Value
	left := b[marks:]
	for i, c := range cols {
		v, n := null, 0
		switch {
		case b[i/8]>>(i%8)%2 == 1:
			if c.Need {
				return nil, false
			}
		case c.Kind == 1:
			v = num(0)
			if v.N, n = binary.Varint(left); n <= 0 {
				return nil, false
			}
		case c.Kind == 2:
			count, k := binary.Uvarint(left)
			if k <= 0 || count > 64 || int(count) > len(left)-k {
				return nil, false
			}
			n = k + int(count)
			v = text(string(left[k:n]))
		default:
			if len(left) == 0 || left[0] > 1 {
				return nil, false
			}
			v, n = api.Value{Kind: 3, N: int64(left[0])}, 1
		}
		r, left = append(r, v), left[n:]
	}
	return r, len(left) == 0 && written(r) == s
}

// encodes asks that a row's text is that, and that the text is its row's.
func encodes(t *testing.T, cols []api.Column, r []api.Value, want string) {
	t.Helper()
	s, e := Encode(cols, r)
	if s != want || e != api.OK {
		t.Fatalf("Encode(%+v, %+v): %x, %d, want %x", cols, r, s, int(e), want)
	}
	back, e := Decode(cols, want)
	if !slices.Equal(back, r) || e != api.OK {
		t.Fatalf("Decode(%+v, %x): %+v, %d, want %+v", cols, want, back, int(e), r)
	}
}

// none asks that Decode refuses a text, and answers nothing beside it.
func none(t *testing.T, cols []api.Column, s string) {
	t.Helper()
	if r, e := Decode(cols, s); len(r) != 0 || e != api.ErrForm {
		t.Fatalf("Decode(%+v, %x): %+v, %d", cols, s, r, int(e))
	}
}

// decodes asks that Decode takes a text just if it is a row's, and reads that row; whether it did.
func decodes(t *testing.T, cols []api.Column, s string) bool {
	t.Helper()
	r, ok := readAs(cols, s)
	if !ok {
		none(t, cols, s)
		return false
	}
	encodes(t, cols, r, s)
	return true
}

// P5.3, P5.4, P5.5: known texts, those of the chapter's examples first.
func TestKnown(t *testing.T) {
	for _, c := range []struct {
		cols string
		row  []api.Value
		text string
	}{
		{"itB", row(num(1), text("x"), yes), "00 02 01 78 01"},
		{"itB", row(null, null, no), "03 00"},
		{"itB", row(num(-1), text(""), no), "00 01 00 00"},
		{"itb", row(null, null, null), "07"},
		{"itb", row(num(0), null, yes), "02 00 01"},
		{"itb", row(num(2), text("yz"), null), "04 04 02 79 7a"},
		{"i", row(null), "01"},
		{"i", row(num(0)), "00 00"},
		{"I", row(num(63)), "00 7e"},
		{"I", row(num(-64)), "00 7f"},
		{"i", row(num(64)), "00 80 01"},
		{"i", row(num(-65)), "00 81 01"},
		{"i", row(num(150)), "00 ac 02"},
		{"i", row(num(greatest)), "00 fe ff ff ff ff ff ff ff ff 01"},
		{"i", row(num(least)), "00 ff ff ff ff ff ff ff ff ff 01"},
		{"t", row(text("")), "00 00"},
		{"t", row(text("\x00")), "00 01 00"},
		{"t", row(text("\xff\xfe")), "00 02 ff fe"},
		{"b", row(no), "00 00"},
		{"B", row(yes), "00 01"},
		{"b", row(null), "01"},
		{"bbbbbbbb", times(8, yes), "00 01 01 01 01 01 01 01 01"},
		{"bbbbbbbb", times(8, null), "ff"},
		{"bbbbbbbbb", times(9, yes), "00 00 01 01 01 01 01 01 01 01 01"},
		{"bbbbbbbbb", times(9, null), "ff 01"},
		{"bbbbbbbbbbbbbbbb", times(16, null), "ff ff"},
		{"iiiiiiii", append(times(7, num(1)), null), "80 02 02 02 02 02 02 02"},
		{"iiiiiiiii", append(times(8, num(1)), null), "00 01 02 02 02 02 02 02 02 02"},
		{"iiiiiiiii", append(row(null), times(8, num(-1))...), "01 00 01 01 01 01 01 01 01 01"},
	} {
		encodes(t, columns(c.cols), c.row, unhex(t, c.text))
	}
}

// P5.3, P5.4, P5.5: every row of 8 and of 9 columns as to where Null is; and of each number of columns Null in each one place, in all, in none.
func TestMarks(t *testing.T) {
	kinds := "itbitbitbitbitbi"
	values := row(num(-1), text("a"), yes)
	full := func(n int) []api.Value {
		var r []api.Value
		for i := range n {
			r = append(r, values[i%3])
		}
		return r
	}
	for _, n := range []int{8, 9} {
		for marks := range 1 << n {
			r := full(n)
			for i := range n {
				if marks>>i%2 == 1 {
					r[i] = null
				}
			}
			encodes(t, columns(kinds[:n]), r, written(r))
		}
	}
	for n := 1; n <= 16; n++ {
		encodes(t, columns(kinds[:n]), full(n), written(full(n)))
		encodes(t, columns(kinds[:n]), times(n, null), written(times(n, null)))
		for i := range n {
			r := full(n)
			r[i] = null
			encodes(t, columns(kinds[:n]), r, written(r))
			r = times(n, null)
			r[i] = values[i%3]
			encodes(t, columns(kinds[:n]), r, written(r))
		}
	}
}

// P5.3, P5.4, P5.5: numbers around each end of as many bytes as they have; their numbers in other, longer forms are none.
func TestNumbers(t *testing.T) {
	numbers := []int64{least, least + 1, -1, 0, 1, greatest - 1, greatest}
	for bits := range 63 {
		for d := int64(-2); d <= 2; d++ {
			numbers = append(numbers, 1<<bits+d, -1<<bits+d)
		}
	}
	for _, n := range numbers {
		for _, kind := range []string{"i", "I"} {
			s := written(row(num(n)))
			encodes(t, columns(kind), row(num(n)), s)
			last := len(s) - 1
			none(t, columns(kind), s[:last]+string([]byte{s[last] | 0x80, 0}))
			none(t, columns(kind), s[:last]+string([]byte{s[last] | 0x80, 0x80, 0}))
			none(t, columns(kind), s[:last]+string([]byte{s[last] | 0x80}))
		}
	}
	none(t, columns("i"), "\x00"+strings.Repeat("\xff", 9)+"\x02")
	none(t, columns("i"), "\x00"+strings.Repeat("\x80", 10)+"\x01")
	none(t, columns("i"), "\x00"+strings.Repeat("\xff", 10)+"\x01")
}

// P5.3, P5.4, P5.5: texts of every length, and of every byte; one of more than 64 bytes is none.
func TestTexts(t *testing.T) {
	for n := range 65 {
		encodes(t, columns("t"), row(text(long(n))), "\x00"+string([]byte{byte(n)})+long(n))
	}
	for n := 65; n < 128; n++ {
		none(t, columns("t"), "\x00"+string([]byte{byte(n)})+long(n))
	}
	none(t, columns("t"), "\x00\x80\x01"+long(128))
	none(t, columns("t"), "\x00\xff\xff\xff\xff\xff\xff\xff\xff\xff\x01")
	none(t, columns("t"), "\x00\x81\x00a")
	none(t, columns("t"), "\x00\x80\x00")
	for x := range 256 {
		b := string([]byte{byte(x)})
		encodes(t, columns("tT"), row(text(b), text("a"+b)), "\x00\x01"+b+"\x02a"+b)
		encodes(t, columns("T"), row(text(strings.Repeat(b, 64))), "\x00\x40"+strings.Repeat(b, 64))
	}
}

// P5.3, P5.4: truths are 0 and 1, whatever other byte is none.
func TestTruths(t *testing.T) {
	for _, kind := range []string{"b", "B"} {
		encodes(t, columns(kind), row(no), "\x00\x00")
		encodes(t, columns(kind), row(yes), "\x00\x01")
		for x := 2; x < 256; x++ {
			none(t, columns(kind), string([]byte{0, byte(x)}))
		}
	}
}

// P5.3, P5.4: a text of 160 bytes is one, of 161 is none, whatever makes it long; Fits does not ask for that.
func TestWide(t *testing.T) {
	tttt := columns("tttt")
	for n := range 65 {
		for m := range 65 {
			r := row(text(long(64)), null, text(long(m)), text(long(n)))
			s := written(r)
			fits(t, tttt, r, api.OK)
			if len(s) <= 160 {
				encodes(t, tttt, r, s)
				continue
			}
			if got, e := Encode(tttt, r); got != "" || e != api.ErrWide {
				t.Fatalf("Encode of %d bytes: %x, %d", len(s), got, int(e))
			}
			none(t, tttt, s)
		}
	}
	if s := written(row(text(long(64)), null, text(long(64)), text(long(28)))); len(s) != 160 {
		t.Fatalf("the longest text has %d bytes", len(s))
	}
	sixteen := columns(strings.Repeat("i", 16))
	r := append(times(15, num(least)), num(0)) // two marks, fifteen of ten bytes, one of the others
	for _, c := range []struct {
		last int64
		e    api.Errno
	}{{0, api.OK}, {1 << 20, api.OK}, {1 << 47, api.OK}, {1<<55 - 1, api.OK}, {1 << 55, api.ErrWide}, {greatest, api.ErrWide}} {
		r[15] = num(c.last)
		if c.e == api.OK {
			encodes(t, sixteen, r, written(r))
			continue
		}
		if got, e := Encode(sixteen, r); got != "" || e != c.e {
			t.Errorf("Encode(%+v): %x, %d", r, got, int(e))
		}
		none(t, sixteen, written(r))
	}
	if got, e := Encode(columns(strings.Repeat("t", 16)), times(16, text(long(64)))); got != "" || e != api.ErrWide {
		t.Errorf("Encode of the greatest row: %x, %d", got, int(e))
	}
}

// P5.3: what does not fit comes ahead of what has too many bytes.
func TestWideLast(t *testing.T) {
	cols := columns("TTTI")
	for _, c := range []struct {
		last api.Value
		e    api.Errno
	}{{num(1), api.ErrWide}, {text("a"), api.ErrKind}, {null, api.ErrNull}, {api.Value{Kind: 4}, api.ErrForm}} {
		if s, e := Encode(cols, row(text(long(64)), text(long(64)), text(long(64)), c.last)); s != "" || e != c.e {
			t.Errorf("Encode, the last one %+v: %x, %d, want %d", c.last, s, int(e), int(c.e))
		}
	}
	if s, e := Encode(columns("TTT"), row(text(long(64)), text(long(64)), text(long(64)), num(1))); s != "" || e != api.ErrArg {
		t.Errorf("Encode of one value more: %x, %d", s, int(e))
	}
}

// P5.4: columns that may not be come ahead of all, whatever the text.
func TestDecodeArg(t *testing.T) {
	for _, cols := range colsMayNot() {
		for _, s := range []string{"", "\x00", "\x00\x00", "\x01", "\x00\x02\x01x\x01", "\xff\xff", long(160), long(161)} {
			if r, e := Decode(cols, s); len(r) != 0 || e != api.ErrArg {
				t.Errorf("Decode(%+v, %x): %+v, %d", cols, s, r, int(e))
			}
		}
	}
}

// P5.4: texts that are no row's text, by cause.
func TestNone(t *testing.T) {
	for _, c := range []struct{ cols, text string }{
		{"itB", "07"}, {"itB", "08 02 01 78 01"}, {"itB", "00 02 01 78 02"}, {"itB", "03 00 00"},
		{"itB", ""}, {"itB", "00"}, {"itB", "03"}, {"itB", "04"}, {"itB", "10 02 01 78 01"}, {"itB", "20 02 01 78 01"}, {"itB", "40 02 01 78 01"}, {"itB", "80 02 01 78 01"}, {"itB", "83 00"}, {"itB", "0b 00"},
		{"itB", "00 82 00 01 78 01"}, {"itB", "00 02 81 00 78 01"}, {"itB", "00 02 01 78 81"}, {"itB", "00 02 01 78 01 00"}, {"itB", "00 02 01 78"}, {"itB", "00 02 02 78 01"}, {"itB", "00 02 00 78 01"},
		{"I", "01"}, {"I", "01 00"}, {"T", "01"}, {"B", "01"}, {"i", "02 00"}, {"i", "01 00"}, {"i", "03"}, {"t", "01 00"}, {"b", "01 00"}, {"b", "01 01"},
		{"iiiiiiiiI", "ff 01"}, {"iiiiiiiI", "ff"}, {"Iiiiiiiii", "ff 01"}, {"iiiiiiiI", "80 02 02 02 02 02 02 02"}, {"iiiiiiiiI", "00 01 02 02 02 02 02 02 02 02"},
		{"bbbbbbbb", "ff 00"}, {"bbbbbbbbb", "ff"}, {"bbbbbbbbb", "ff 03"}, {"bbbbbbbbb", "ff 81"}, {"bbbbbbbbb", "fe 02 01"}, {"bbbbbbbbb", "00"},
	} {
		none(t, columns(c.cols), unhex(t, c.text))
	}
}

// P5.4: each bit of no column, whatever the row; a row cut off at any byte; one byte behind it.
func TestSpoiled(t *testing.T) {
	rows := someRows(200)
	for _, c := range rows {
		s := written(c.row)
		encodes(t, c.cols, c.row, s)
		for place := len(c.cols); place < 8*((len(c.cols)+7)/8); place++ {
			marked := []byte(s)
			marked[place/8] |= 1 << (place % 8)
			none(t, c.cols, string(marked))
		}
		for at := range len(s) {
			none(t, c.cols, s[:at])
		}
		for x := range 256 {
			none(t, c.cols, s+string([]byte{byte(x)}))
		}
	}
}

// P5.4: Null said of a column with Need, at each place of rows of each length.
func TestNeeded(t *testing.T) {
	for n := 1; n <= 16; n++ {
		for i := range n {
			cols := columns(strings.Repeat("i", n))
			r := times(n, num(7))
			r[i] = null
			encodes(t, cols, r, written(r))
			cols[i].Need = true
			none(t, cols, written(r))
			none(t, cols, written(times(n, null)))
			r = times(n, null)
			r[i] = num(7)
			encodes(t, cols, r, written(r))
		}
	}
}

// P5.4: long texts, of each byte, by columns of each number.
func TestLong(t *testing.T) {
	for _, length := range []int{161, 162, 256, 257, 1 << 16, 1 << 20} {
		for _, x := range []byte{0, 1, 2, 0x40, 0x7f, 0x80, 0xff} {
			s := strings.Repeat(string([]byte{x}), length)
			for n := 1; n <= 16; n++ {
				for _, kind := range []string{"i", "t", "b"} {
					none(t, columns(strings.Repeat(kind, n)), s)
				}
			}
		}
	}
}

// P5.4, P5.5: all short texts of the bytes that mean something; every text of two bytes, and such of three and four.
func TestShort(t *testing.T) {
	few := [][]api.Column{columns("i"), columns("I"), columns("t"), columns("T"), columns("b"), columns("B"), columns("it"), columns("tB"), columns("bbb"), columns("iTb"), columns("ttt"), columns("iiiiiiii"), columns("bbbbbbbbb"), columns("iiitttbbbB"), columns("tttttttttttttttt")}
	for _, cols := range few {
		taken := 0
		check := func(b ...byte) {
			if decodes(t, cols, string(b)) {
				taken++
			}
		}
		check()
		for x := range 256 {
			check(byte(x))
			for y := range 256 {
				check(byte(x), byte(y))
				check(0, byte(x), byte(y))
			}
			for _, y := range []byte{0, 1, 2, 3, 0x40, 0x7f, 0x80, 0x81, 0xff} {
				check(0, 0x80, byte(x), y)
				check(0, byte(x), 1, y)
				check(0xff, byte(x), y)
				check(0xff, 0, byte(x), y)
			}
		}
		var all func(b []byte, left int)
		all = func(b []byte, left int) {
			check(b...)
			for _, x := range []byte{0, 1, 2, 3, 4, 0x7f, 0x80, 0xff} {
				if left > 0 {
					all(append(slices.Clone(b), x), left-1)
				}
			}
		}
		all(nil, 5)
		if taken == 0 {
			t.Errorf("no short text was a row's of %+v", cols)
		}
	}
}

// someRow is a row that has a text, and its columns.
type someRow struct {
	cols []api.Column
	row  []api.Value
}

// someRows are rows of all lengths, whose columns and values hang on a seed.
func someRows(count int) []someRow {
	x := uint64(88172645463325252)
	next := func(n int) int {
		x ^= x << 13
		x ^= x >> 7
		x ^= x << 17
		return int(x >> 33 % uint64(n))
	}
	values := [][]api.Value{
		row(num(least), num(-1<<40), num(-65), num(-64), num(-1), num(0), num(1), num(63), num(64), num(1<<40), num(greatest)),
		row(text(""), text("a"), text("\x00"), text("\x80\x01"), text("\xff\xff"), text(long(20)), text(long(64))),
		row(no, yes),
	}
	var rows []someRow
	for len(rows) < count {
		kinds, r := "", row()
		for range next(16) + 1 {
			kind := next(6)
			kinds += "itbITB"[kind : kind+1]
			v := values[kind%3][next(len(values[kind%3]))]
			if kind < 3 && next(3) == 0 {
				v = null
			}
			r = append(r, v)
		}
		if len(written(r)) <= 160 {
			rows = append(rows, someRow{columns(kinds), r})
		}
	}
	return rows
}

// P5.4, P5.5: texts of which a byte was changed, taken away, put in: a row's, written as it was, or none's.
func TestChanged(t *testing.T) {
	taken := 0
	for _, c := range someRows(200) {
		s := []byte(written(c.row))
		check := func(b []byte) {
			if decodes(t, c.cols, string(b)) {
				taken++
			}
		}
		for at := range s {
			check(slices.Delete(slices.Clone(s), at, at+1))
			for _, x := range []byte{0, 1, 2, 3, 4, 0x20, 0x40, 0x41, 0x7f, 0x80, 0x81, 0xfe, 0xff} {
				changed := slices.Clone(s)
				changed[at] = x
				check(changed)
				check(slices.Insert(slices.Clone(s), at, x))
			}
			for bit := range 8 {
				turned := slices.Clone(s)
				turned[at] ^= 1 << bit
				check(turned)
			}
		}
	}
	if taken < 1000 {
		t.Errorf("%d changed texts were a row's", taken)
	}
}

// P5.4: the same text by other columns: of another kind, with another Need, one more, one less.
func TestOtherColumns(t *testing.T) {
	for _, c := range []struct {
		cols, text string
		row        []api.Value
	}{
		{"i", "00 01", row(num(-1))}, {"b", "00 01", row(yes)}, {"t", "00 01", nil}, {"ii", "00 01", nil}, {"bi", "00 01", nil},
		{"i", "00 00", row(num(0))}, {"b", "00 00", row(no)}, {"t", "00 00", row(text(""))}, {"bt", "00 00", nil}, {"iiiiiiiii", "00 00", nil},
		{"t", "00 01 01", row(text("\x01"))}, {"ii", "00 01 01", row(num(-1), num(-1))}, {"bb", "00 01 01", row(yes, yes)}, {"tt", "00 01 01", nil}, {"bi", "00 01 01", row(yes, num(-1))},
		{"itB", "03 00", row(null, null, no)}, {"itb", "03 00", row(null, null, no)}, {"Itb", "03 00", nil}, {"it", "03 00", nil}, {"ibb", "03 00", row(null, null, no)}, {"bti", "03 00", row(null, null, num(0))},
		{"ii", "03", row(null, null)}, {"i", "03", nil}, {"iii", "03", nil}, {"iI", "03", nil}, {"Tt", "03", nil}, {"bt", "03", row(null, null)},
	} {
		r, e := Decode(columns(c.cols), unhex(t, c.text))
		if !slices.Equal(r, c.row) || e != api.OK && c.row != nil || e != api.ErrForm && c.row == nil {
			t.Errorf("Decode(%s, %s): %+v, %d", c.cols, c.text, r, int(e))
		}
	}
	rows := someRows(120)
	for _, c := range rows {
		for _, other := range rows {
			decodes(t, other.cols, written(c.row))
		}
	}
}

// P5.5: names say nothing in a row's text, nor does Need.
func TestNamesUnsaid(t *testing.T) {
	for _, c := range someRows(100) {
		other := slices.Clone(c.cols)
		for i := range other {
			other[i].Name = "other_" + letters[i:i+1]
			other[i].Need = c.row[i] != null
		}
		encodes(t, other, c.row, written(c.row))
	}
}

// P5.5: of unlike rows, by the same columns, the texts are unlike: of all rows of three columns of some values.
func TestUnlike(t *testing.T) {
	ints := row(null, num(least), num(-1), num(0), num(1), num(64), num(greatest))
	texts := row(null, text(""), text("\x00"), text("\x01"), text("\x00\x00"), text("\x01\x01"), text("a"), text(long(64)))
	truths := row(null, no, yes)
	for _, c := range []struct {
		cols string
		of   [3][]api.Value
	}{{"itb", [3][]api.Value{ints, texts, truths}}, {"tti", [3][]api.Value{texts, texts, ints}}, {"bit", [3][]api.Value{truths, ints, texts}}, {"iii", [3][]api.Value{ints, ints, ints}}, {"bbb", [3][]api.Value{truths, truths, truths}}} {
		seen := map[string][]api.Value{}
		for _, x := range c.of[0] {
			for _, y := range c.of[1] {
				for _, z := range c.of[2] {
					r := row(x, y, z)
					s, e := Encode(columns(c.cols), r)
					if other, there := seen[s]; there || e != api.OK {
						t.Errorf("Encode(%s, %+v): %x, %d, as of %+v", c.cols, r, s, int(e), other)
					}
					seen[s] = r
				}
			}
		}
	}
}
