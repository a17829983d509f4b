package code

import (
	"bytes"
	"encoding/binary"
	"fmt"
	"math"
	"strings"
	"testing"

	"cadastre/api"
)

// noise makes n bytes that hang on seed alone.
func noise(seed uint64, n int) []byte {
	b := make([]byte, n)
	x := seed*0x9E3779B97F4A7C15 + 1
	for i := range b {
		x ^= x << 13
		x ^= x >> 7
		x ^= x << 17
		b[i] = byte(x >> 24)
	}
	return b
}

// edges makes the numbers around each power of two, and some of every length between.
func edges() []uint64 {
	numbers := []uint64{0, math.MaxUint64, 300, 258, 0x0123456789ABCDEF, 0x8040201008040201}
	for k := range 64 {
		p := uint64(1) << k
		numbers = append(numbers, p-1, p, p+1, -p)
		for i := range 4 {
			numbers = append(numbers, binary.LittleEndian.Uint64(noise(uint64(4*k+i), 8))>>k)
		}
	}
	return numbers
}

// someTexts are texts of the lengths at which the count grows by a byte, of all kinds of bytes.
func someTexts() []string {
	texts := []string{"", "a", "ab", "\x00", "\xff\xfe", "\x80\x00", "käse", strings.Repeat("\x00", 5)}
	for _, n := range []int{63, 64, 126, 127, 128, 129, 300, 16383, 16384} {
		texts = append(texts, string(noise(uint64(n), n)))
	}
	return texts
}

// a step is one call of a writer, and the reader's call for what it wrote.
type step struct {
	name   string
	number uint64
	text   string
}

// write does the step on a writer.
func (s step) write(w *Writer) {
	switch s.name {
	case "U8":
		w.U8(uint8(s.number))
	case "U16":
		w.U16(uint16(s.number))
	case "U32":
		w.U32(uint32(s.number))
	case "U64":
		w.U64(s.number)
	case "Uint":
		w.Uint(s.number)
	case "Int":
		w.Int(int64(s.number))
	case "Text":
		w.Text(s.text)
	case "Raw":
		w.Raw([]byte(s.text))
	}
}

// read asks a reader for what the step wrote: the number or the text is the answer's, those of the step are not looked at, but how long its text is.
func (s step) read(r *Reader) step {
	switch s.name {
	case "U8":
		return step{name: s.name, number: uint64(r.U8())}
	case "U16":
		return step{name: s.name, number: uint64(r.U16())}
	case "U32":
		return step{name: s.name, number: uint64(r.U32())}
	case "U64":
		return step{name: s.name, number: r.U64()}
	case "Uint":
		return step{name: s.name, number: r.Uint()}
	case "Int":
		return step{name: s.name, number: uint64(r.Int())}
	case "Text":
		return step{name: s.name, text: r.Text(len(s.text))}
	default:
		return step{name: s.name, text: string(r.Raw(len(s.text)))}
	}
}

// bytes tells by the library's own means what a step writes.
func (s step) bytes() []byte {
	switch s.name {
	case "U8":
		return []byte{byte(s.number)}
	case "U16":
		return binary.LittleEndian.AppendUint16(nil, uint16(s.number))
	case "U32":
		return binary.LittleEndian.AppendUint32(nil, uint32(s.number))
	case "U64":
		return binary.LittleEndian.AppendUint64(nil, s.number)
	case "Uint":
		return binary.AppendUvarint(nil, s.number)
	case "Int":
		return binary.AppendVarint(nil, int64(s.number))
	case "Text":
		return append(binary.AppendUvarint(nil, uint64(len(s.text))), s.text...)
	default:
		return []byte(s.text)
	}
}

// allSteps are steps of every kind: numbers at their edges, each cut to what the kind has, and texts.
func allSteps() []step {
	var steps []step
	for _, x := range edges() {
		steps = append(steps, step{name: "U8", number: uint64(uint8(x))}, step{name: "U16", number: uint64(uint16(x))},
			step{name: "U32", number: uint64(uint32(x))}, step{name: "U64", number: x},
			step{name: "Uint", number: x}, step{name: "Int", number: x})
	}
	for _, s := range someTexts() {
		steps = append(steps, step{name: "Text", text: s}, step{name: "Raw", text: s})
	}
	return steps
}

// written tells what a new writer has when a call was made on it.
func written(call func(*Writer)) []byte {
	w := NewWriter()
	call(w)
	return w.Bytes()
}

// is asks what a reader says of itself.
func is(t *testing.T, what string, r *Reader, left int, err api.Errno) {
	t.Helper()
	if got := r.Left(); got != left {
		t.Errorf("%s: Left %d, want %d", what, got, left)
	}
	if got := r.Err(); got != err {
		t.Errorf("%s: Err %d, want %d", what, got, err)
	}
}

// P2.1: what each call writes, byte for byte.
func TestWritten(t *testing.T) {
	for _, c := range []struct {
		name string
		call func(*Writer)
		want string
	}{
		{"nothing", func(w *Writer) {}, ""},
		{"U8(0)", func(w *Writer) { w.U8(0) }, "00"},
		{"U8(255)", func(w *Writer) { w.U8(255) }, "ff"},
		{"U16(258)", func(w *Writer) { w.U16(258) }, "0201"},
		{"U16(0)", func(w *Writer) { w.U16(0) }, "0000"},
		{"U16(65535)", func(w *Writer) { w.U16(65535) }, "ffff"},
		{"U32", func(w *Writer) { w.U32(0x01020304) }, "04030201"},
		{"U32(0)", func(w *Writer) { w.U32(0) }, "00000000"},
		{"U32(80000000)", func(w *Writer) { w.U32(0x80000000) }, "00000080"},
		{"U64", func(w *Writer) { w.U64(0x0102030405060708) }, "0807060504030201"},
		{"U64(1)", func(w *Writer) { w.U64(1) }, "0100000000000000"},
		{"U64(greatest)", func(w *Writer) { w.U64(math.MaxUint64) }, "ffffffffffffffff"},
		{"Uint(0)", func(w *Writer) { w.Uint(0) }, "00"},
		{"Uint(127)", func(w *Writer) { w.Uint(127) }, "7f"},
		{"Uint(128)", func(w *Writer) { w.Uint(128) }, "8001"},
		{"Uint(300)", func(w *Writer) { w.Uint(300) }, "ac02"},
		{"Uint(16383)", func(w *Writer) { w.Uint(16383) }, "ff7f"},
		{"Uint(16384)", func(w *Writer) { w.Uint(16384) }, "808001"},
		{"Uint(2^63 - 1)", func(w *Writer) { w.Uint(1<<63 - 1) }, "ffffffffffffffff7f"},
		{"Uint(2^63)", func(w *Writer) { w.Uint(1 << 63) }, "80808080808080808001"},
		{"Uint(greatest)", func(w *Writer) { w.Uint(math.MaxUint64) }, "ffffffffffffffffff01"},
		{"Int(0)", func(w *Writer) { w.Int(0) }, "00"},
		{"Int(-1)", func(w *Writer) { w.Int(-1) }, "01"},
		{"Int(1)", func(w *Writer) { w.Int(1) }, "02"},
		{"Int(-2)", func(w *Writer) { w.Int(-2) }, "03"},
		{"Int(63)", func(w *Writer) { w.Int(63) }, "7e"},
		{"Int(-64)", func(w *Writer) { w.Int(-64) }, "7f"},
		{"Int(64)", func(w *Writer) { w.Int(64) }, "8001"},
		{"Int(-65)", func(w *Writer) { w.Int(-65) }, "8101"},
		{"Int(greatest)", func(w *Writer) { w.Int(math.MaxInt64) }, "feffffffffffffffff01"},
		{"Int(least)", func(w *Writer) { w.Int(math.MinInt64) }, "ffffffffffffffffff01"},
		{"Text()", func(w *Writer) { w.Text("") }, "00"},
		{"Text(ab)", func(w *Writer) { w.Text("ab") }, "026162"},
		{"Text(no runes)", func(w *Writer) { w.Text("\x00\xff") }, "0200ff"},
		{"Text(128 bytes)", func(w *Writer) { w.Text(strings.Repeat("a", 128)) }, "8001" + strings.Repeat("61", 128)},
		{"Raw(nil)", func(w *Writer) { w.Raw(nil) }, ""},
		{"Raw(no bytes)", func(w *Writer) { w.Raw([]byte{}) }, ""},
		{"Raw", func(w *Writer) { w.Raw([]byte{0, 255, 0}) }, "00ff00"},
		{"four calls", func(w *Writer) { w.U16(258); w.Uint(300); w.Int(-1); w.Text("ab") }, "0201ac0201026162"},
	} {
		if got := fmt.Sprintf("%x", written(c.call)); got != c.want {
			t.Errorf("%s: %s, want %s", c.name, got, c.want)
		}
	}
}

// P2.1: every call at every edge, on an empty writer.
func TestWrittenAtEdges(t *testing.T) {
	for _, s := range allSteps() {
		if got, want := written(s.write), s.bytes(); !bytes.Equal(got, want) {
			t.Fatalf("%s(%d, %d bytes): %x, want %x", s.name, s.number, len(s.text), got, want)
		}
	}
}

// P2.1: the calls' bytes stand one behind the other; Len and Bytes tell them at any time, and change nothing.
func TestWrittenJoined(t *testing.T) {
	w := NewWriter()
	var want []byte
	for i, s := range allSteps() {
		s.write(w)
		want = append(want, s.bytes()...)
		if got := w.Len(); got != len(want) {
			t.Fatalf("Len behind call %d, %s: %d, want %d", i, s.name, got, len(want))
		}
		if i%64 == 0 && !bytes.Equal(w.Bytes(), want) {
			t.Fatalf("Bytes behind call %d, %s: not all calls' bytes", i, s.name)
		}
	}
	for range 2 {
		if !bytes.Equal(w.Bytes(), want) || w.Len() != len(want) {
			t.Fatal("Bytes at the end: not all calls' bytes")
		}
	}
}

// P2.1: two writers have nothing to do with one another.
func TestWritersApart(t *testing.T) {
	a, b := NewWriter(), NewWriter()
	a.U8(1)
	b.U16(2)
	a.Text("a")
	b.Uint(3)
	if got := fmt.Sprintf("%x %x", a.Bytes(), b.Bytes()); got != "010161 020003" {
		t.Errorf("two writers: %s", got)
	}
}

// P2.2: fixed numbers, from the front of what is left.
func TestReadFixed(t *testing.T) {
	b := []byte{0xF1, 0x02, 0xF1, 0x04, 0x03, 0x02, 0xF1, 0x08, 0x07, 0x06, 0x05, 0x04, 0x03, 0x02, 0xF1, 0x55}
	r := NewReader(b)
	is(t, "new", r, 16, api.OK)
	if x := r.U8(); x != 0xF1 {
		t.Errorf("U8: %x", x)
	}
	is(t, "behind U8", r, 15, api.OK)
	if x := r.U16(); x != 0xF102 {
		t.Errorf("U16: %x", x)
	}
	is(t, "behind U16", r, 13, api.OK)
	if x := r.U32(); x != 0xF1020304 {
		t.Errorf("U32: %x", x)
	}
	is(t, "behind U32", r, 9, api.OK)
	if x := r.U64(); x != 0xF102030405060708 {
		t.Errorf("U64: %x", x)
	}
	is(t, "behind U64", r, 1, api.OK)
}

// reads are all calls that take; each tells whether it answered zero.
var reads = []struct {
	name string
	call func(*Reader) bool
}{
	{"U8", func(r *Reader) bool { return r.U8() == 0 }},
	{"U16", func(r *Reader) bool { return r.U16() == 0 }},
	{"U32", func(r *Reader) bool { return r.U32() == 0 }},
	{"U64", func(r *Reader) bool { return r.U64() == 0 }},
	{"Uint", func(r *Reader) bool { return r.Uint() == 0 }},
	{"Int", func(r *Reader) bool { return r.Int() == 0 }},
	{"Text(0)", func(r *Reader) bool { return r.Text(0) == "" }},
	{"Text(64)", func(r *Reader) bool { return r.Text(64) == "" }},
	{"Raw(0)", func(r *Reader) bool { return len(r.Raw(0)) == 0 }},
	{"Raw(1)", func(r *Reader) bool { return len(r.Raw(1)) == 0 }},
}

// P2.2, P2.3: a fixed number of which the bytes end within it.
func TestReadFixedShort(t *testing.T) {
	for i, size := range []int{1, 2, 4, 8} {
		for n := range size {
			r := NewReader(bytes.Repeat([]byte{0xFF}, n))
			if !reads[i].call(r) {
				t.Errorf("%s of %d bytes: not zero", reads[i].name, n)
			}
			is(t, fmt.Sprintf("%s of %d bytes", reads[i].name, n), r, n, api.ErrForm)
		}
		r := NewReader(bytes.Repeat([]byte{0xFF}, size))
		if reads[i].call(r) {
			t.Errorf("%s of %d bytes: zero", reads[i].name, size)
		}
		is(t, fmt.Sprintf("%s of %d bytes", reads[i].name, size), r, 0, api.OK)
	}
}

// P2.2: counted and signed numbers, with bytes behind them that stay.
func TestReadCounted(t *testing.T) {
	for _, c := range []struct {
		b    string
		x    uint64
		i    int64
		left int
	}{
		{"\x00", 0, 0, 0},
		{"\x01", 1, -1, 0},
		{"\x02", 2, 1, 0},
		{"\x7F", 127, -64, 0},
		{"\x80\x01", 128, 64, 0},
		{"\xAC\x02", 300, 150, 0},
		{"\xFF\x01", 255, -128, 0},
		{"\x80\x80\x01", 16384, 8192, 0},
		{"\x00\x00", 0, 0, 1},
		{"\x05\x80", 5, -3, 1},
		{"\xAC\x02\xFF\xFF", 300, 150, 2},
		{"\xFF\xFF\xFF\xFF\xFF\xFF\xFF\xFF\x7F\x01", 1<<63 - 1, -1 << 62, 1},
		{"\x80\x80\x80\x80\x80\x80\x80\x80\x80\x01", 1 << 63, 1 << 62, 0},
		{"\xFE\xFF\xFF\xFF\xFF\xFF\xFF\xFF\xFF\x01\x02", math.MaxUint64 - 1, math.MaxInt64, 1},
		{"\xFF\xFF\xFF\xFF\xFF\xFF\xFF\xFF\xFF\x01", math.MaxUint64, math.MinInt64, 0},
	} {
		r := NewReader([]byte(c.b))
		if x := r.Uint(); x != c.x {
			t.Errorf("Uint of %x: %d, want %d", c.b, x, c.x)
		}
		is(t, fmt.Sprintf("Uint of %x", c.b), r, c.left, api.OK)
		r = NewReader([]byte(c.b))
		if x := r.Int(); x != c.i {
			t.Errorf("Int of %x: %d, want %d", c.b, x, c.i)
		}
		is(t, fmt.Sprintf("Int of %x", c.b), r, c.left, api.OK)
	}
}

// noCounted are bytes that begin with no counted number.
func noCounted() []string {
	nine := strings.Repeat("\x80", 9)
	none := []string{
		"",                                       // nothing
		"\x80", "\xFF", "\xAC", "\x80\x80", nine, // they end within it
		"\x80\x00", "\xFF\x00", "\x81\x80\x00", "\x80\x00\x01", nine + "\x00", // the last of more than one is 0
		nine + "\x80", nine + "\x81", nine + "\xFF", // ten bytes, and no end
		nine + "\x80\x00", nine + "\x80\x01", nine + "\x81\x01", nine + "\x82\x01", nine + "\xFF\x01", nine + "\x80\x80\x01", // more than ten
		strings.Repeat("\xFF", 10) + "\x01", strings.Repeat("\xFF", 40),
	}
	for last := 2; last < 128; last++ { // ten, of which the last is above 1
		none = append(none, nine+string([]byte{byte(last)}), strings.Repeat("\xFF", 9)+string([]byte{byte(last)}))
	}
	return none
}

// P2.2, P2.3: where no counted number stands there is neither a signed one nor a text, and nothing is taken.
func TestReadNoCounted(t *testing.T) {
	for _, b := range noCounted() {
		for _, behind := range []string{"", "\x01", "abc"} {
			all := b + behind
			if behind != "" && (b == "" || b[len(b)-1] >= 0x80 && len(b) < 10) {
				continue // what stands behind ends the number
			}
			r := NewReader([]byte(all))
			if x := r.Uint(); x != 0 {
				t.Errorf("Uint of %x: %d", all, x)
			}
			is(t, fmt.Sprintf("Uint of %x", all), r, len(all), api.ErrForm)
			r = NewReader([]byte(all))
			if x := r.Int(); x != 0 {
				t.Errorf("Int of %x: %d", all, x)
			}
			is(t, fmt.Sprintf("Int of %x", all), r, len(all), api.ErrForm)
			r = NewReader([]byte(all))
			if x := r.Text(math.MaxInt); x != "" {
				t.Errorf("Text of %x: %x", all, x)
			}
			is(t, fmt.Sprintf("Text of %x", all), r, len(all), api.ErrForm)
		}
	}
}

// P2.2, P2.3: texts, with every most that matters.
func TestReadText(t *testing.T) {
	long := strings.Repeat("x", 128)
	huge := "\xFF\xFF\xFF\xFF\xFF\xFF\xFF\xFF\xFF\x01"
	for _, c := range []struct {
		b    string
		most int
		want string
		left int
		err  api.Errno
	}{
		{"\x02ab", 2, "ab", 0, api.OK},
		{"\x02ab", 3, "ab", 0, api.OK},
		{"\x02ab", math.MaxInt, "ab", 0, api.OK},
		{"\x02abc", 2, "ab", 1, api.OK},
		{"\x00", 0, "", 0, api.OK},
		{"\x00", 5, "", 0, api.OK},
		{"\x00\x02ab", 0, "", 3, api.OK},
		{"\x01\x00", 1, "\x00", 0, api.OK},
		{"\x02\xFF\x80", 64, "\xFF\x80", 0, api.OK},
		{"\x80\x01" + long, 128, long, 0, api.OK},
		{"\x80\x01" + long + "y", 128, long, 1, api.OK},
		{"\x02ab", 1, "", 3, api.ErrForm},
		{"\x02ab", 0, "", 3, api.ErrForm},
		{"\x02ab", -1, "", 3, api.ErrForm},
		{"\x02ab", math.MinInt, "", 3, api.ErrForm},
		{"\x00", -1, "", 1, api.ErrForm},
		{"\x00", math.MinInt, "", 1, api.ErrForm},
		{"\x03ab", 64, "", 3, api.ErrForm},
		{"\x01", 64, "", 1, api.ErrForm},
		{"\x80\x01" + long, 127, "", 130, api.ErrForm},
		{"\x80\x01" + long[1:], 128, "", 129, api.ErrForm},
		{"\x81\x01" + long, 200, "", 130, api.ErrForm},
		{"\x82\x00ab", 64, "", 4, api.ErrForm},
		{"", 0, "", 0, api.ErrForm},
		{huge + "ab", 2, "", 12, api.ErrForm},
		{huge + "ab", math.MaxInt, "", 12, api.ErrForm},
		{huge + "ab", -1, "", 12, api.ErrForm}, // as counted numbers go, -1 would be just as much
		{"\x80\x80\x80\x80\x80\x80\x80\x80\x80\x01ab", math.MaxInt, "", 12, api.ErrForm},
		{"\xFF\xFF\xFF\xFF\xFF\xFF\xFF\xFF\x7Fab", math.MaxInt, "", 11, api.ErrForm},
		{"\x82\x80\x80\x80\x10ab", math.MaxInt, "", 7, api.ErrForm}, // 2^32 + 2
	} {
		r := NewReader([]byte(c.b))
		if got := r.Text(c.most); got != c.want {
			t.Errorf("Text(%d) of %x: %x, want %x", c.most, c.b, got, c.want)
		}
		is(t, fmt.Sprintf("Text(%d) of %x", c.most, c.b), r, c.left, c.err)
	}
}

// P2.2, P2.3: bytes as they are, by their number.
func TestReadRaw(t *testing.T) {
	for _, c := range []struct {
		b    string
		n    int
		want string
		left int
		err  api.Errno
	}{
		{"", 0, "", 0, api.OK},
		{"abc", 0, "", 3, api.OK},
		{"abc", 1, "a", 2, api.OK},
		{"abc", 2, "ab", 1, api.OK},
		{"abc", 3, "abc", 0, api.OK},
		{"\x00\xFF", 2, "\x00\xFF", 0, api.OK},
		{"", 1, "", 0, api.ErrForm},
		{"abc", 4, "", 3, api.ErrForm},
		{"abc", math.MaxInt, "", 3, api.ErrForm},
		{"abc", -1, "", 3, api.ErrForm},
		{"abc", math.MinInt, "", 3, api.ErrForm},
		{"", -1, "", 0, api.ErrForm},
	} {
		r := NewReader([]byte(c.b))
		if got := r.Raw(c.n); string(got) != c.want {
			t.Errorf("Raw(%d) of %x: %x, want %x", c.n, c.b, got, c.want)
		}
		is(t, fmt.Sprintf("Raw(%d) of %x", c.n, c.b), r, c.left, c.err)
	}
}

// faults are calls that find nothing where three bytes are left; if counted is set, just where these are 80 00 01.
var faults = []struct {
	name    string
	counted bool
	call    func(*Reader)
}{
	{"U32", false, func(r *Reader) { r.U32() }},
	{"U64", false, func(r *Reader) { r.U64() }},
	{"Uint", true, func(r *Reader) { r.Uint() }},
	{"Int", true, func(r *Reader) { r.Int() }},
	{"Text(64)", true, func(r *Reader) { r.Text(64) }},
	{"Text(-1)", false, func(r *Reader) { r.Text(-1) }},
	{"Raw(-1)", false, func(r *Reader) { r.Raw(-1) }},
	{"Raw(4)", false, func(r *Reader) { r.Raw(4) }},
	{"End", false, func(r *Reader) { r.End() }},
}

// P2.3: behind a fault each call answers zero, takes nothing, and the fault stays, whatever stands there; what was taken ahead of it is taken.
func TestFaultSticks(t *testing.T) {
	for _, three := range []string{"\x80\x00\x01", "\x01a\x02", "\x00\x01\x01", "\xFF\x01\xFF"} {
		for _, f := range faults {
			if f.counted && three != "\x80\x00\x01" {
				continue
			}
			for _, c := range reads {
				r := NewReader([]byte("\x07\x09" + three))
				if x := r.U16(); x != 0x0907 {
					t.Fatalf("U16: %x", x)
				}
				is(t, "ahead of a fault", r, 3, api.OK)
				f.call(r)
				is(t, f.name, r, 3, api.ErrForm)
				for range 3 {
					what := fmt.Sprintf("%s behind %s, %x left", c.name, f.name, three)
					if !c.call(r) {
						t.Errorf("%s: not zero", what)
					}
					is(t, what, r, 3, api.ErrForm)
				}
				if e := r.End(); e != api.ErrForm {
					t.Errorf("End behind %s: %d", f.name, e)
				}
				is(t, "End behind "+f.name, r, 3, api.ErrForm)
			}
		}
	}
}

// P2.3: a fault sticks where no bytes are left, too.
func TestFaultSticksAtEnd(t *testing.T) {
	for _, c := range reads {
		if c.name == "Raw(0)" {
			continue // no bytes are there
		}
		r := NewReader(nil)
		if !c.call(r) {
			t.Errorf("%s of no bytes: not zero", c.name)
		}
		is(t, c.name+" of no bytes", r, 0, api.ErrForm)
		if e := r.End(); e != api.ErrForm {
			t.Errorf("End behind %s of no bytes: %d", c.name, e)
		}
	}
}

// P2.3: End asks for nothing left; Err and Left may be asked at any time.
func TestEnd(t *testing.T) {
	for _, b := range [][]byte{nil, {}} {
		r := NewReader(b)
		for range 2 {
			is(t, "no bytes", r, 0, api.OK)
			if e := r.End(); e != api.OK {
				t.Errorf("End of no bytes: %d", e)
			}
		}
	}
	r := NewReader([]byte{7, 8})
	if x := r.U8(); x != 7 {
		t.Errorf("U8: %d", x)
	}
	is(t, "behind U8", r, 1, api.OK)
	for range 2 {
		if e := r.End(); e != api.ErrForm {
			t.Errorf("End with a byte left: %d", e)
		}
		is(t, "End with a byte left", r, 1, api.ErrForm)
	}
	if x := r.U8(); x != 0 {
		t.Errorf("U8 behind that End: %d", x)
	}
	r = NewReader([]byte{7, 8})
	r.U16()
	for range 2 {
		if e := r.End(); e != api.OK {
			t.Errorf("End with nothing left: %d", e)
		}
		is(t, "End with nothing left", r, 0, api.OK)
	}
	if x := r.Raw(0); len(x) != 0 {
		t.Errorf("Raw(0) behind End: %x", x)
	}
	is(t, "Raw(0) behind End", r, 0, api.OK)
}

// P2.4: writers that NewWriter did not make take nothing.
func TestNoWriter(t *testing.T) {
	for name, w := range map[string]*Writer{"nil": nil, "zero": {}, "new": new(Writer)} {
		for _, s := range allSteps() {
			s.write(w)
			if w.Len() != 0 || len(w.Bytes()) != 0 {
				t.Fatalf("%s behind %s: %x, Len %d", name, s.name, w.Bytes(), w.Len())
			}
		}
	}
	var w Writer
	w.U8(1)
	if w.Len() != 0 || len(w.Bytes()) != 0 {
		t.Errorf("a variable: %x", w.Bytes())
	}
}

// P2.4: readers that NewReader did not make have the fault, and nothing left.
func TestNoReader(t *testing.T) {
	for name, r := range map[string]*Reader{"nil": nil, "zero": {}, "new": new(Reader)} {
		is(t, name, r, 0, api.ErrForm)
		for _, c := range reads {
			if !c.call(r) {
				t.Errorf("%s: %s: not zero", name, c.name)
			}
			is(t, name+" behind "+c.name, r, 0, api.ErrForm)
		}
		for _, f := range faults {
			f.call(r)
			is(t, name+" behind "+f.name, r, 0, api.ErrForm)
		}
		if e := r.End(); e != api.ErrForm {
			t.Errorf("%s: End: %d", name, e)
		}
	}
	var r Reader
	if e := r.End(); e != api.ErrForm {
		t.Errorf("a variable, End: %d", e)
	}
}

// fill turns all bytes of a list's memory, those behind its length too.
func fill(b []byte) {
	b = b[:cap(b)]
	for i := range b {
		b[i] ^= 0xFF
	}
}

// P2.4: what a writer is handed is neither changed nor kept, nor what lies behind its length read or written; be it the first call or a later one.
func TestWriterArguments(t *testing.T) {
	for n := range 40 {
		for _, ahead := range []int{0, 1, 7} {
			whole := noise(uint64(n), n+16)
			before := bytes.Clone(whole)
			w := NewWriter()
			w.Raw(before[n : n+ahead])
			w.Raw(whole[:n])
			w.U64(2)
			w.Raw(whole[:n])
			want := bytes.Join([][]byte{before[n : n+ahead], before[:n], {2, 0, 0, 0, 0, 0, 0, 0}, before[:n]}, nil)
			if !bytes.Equal(whole, before) {
				t.Fatalf("Raw of %d bytes behind %d has changed its argument's memory", n, ahead)
			}
			fill(whole)
			if got := w.Bytes(); !bytes.Equal(got, want) {
				t.Fatalf("Raw of %d bytes behind %d: %x, want %x", n, ahead, got, want)
			}
		}
	}
}

// P2.4: Bytes is new memory each time.
func TestWriterAnswers(t *testing.T) {
	for n := range 70 {
		w := NewWriter()
		w.Raw(noise(uint64(n), n))
		first, second := w.Bytes(), w.Bytes()
		fill(first)
		if want := noise(uint64(n), n); !bytes.Equal(second, want) || !bytes.Equal(w.Bytes(), want) {
			t.Fatalf("%d bytes: two answers share memory, or one and the writer", n)
		}
		w.U64(0)
		if !bytes.Equal(second, noise(uint64(n), n)) || w.Len() != n+8 {
			t.Fatalf("%d bytes: an answer has changed with the writer", n)
		}
		if got := w.Bytes(); !bytes.Equal(got, append(noise(uint64(n), n), make([]byte, 8)...)) {
			t.Fatalf("%d bytes and 8: %x", n, got)
		}
	}
}

// P2.4: what a reader is handed is neither changed nor kept, nor what lies behind its length read.
func TestReaderArguments(t *testing.T) {
	whole := []byte{5, 0xAC, 0x02, 2, 'a', 'b', 'x', 'y', 'z', 0x80, 0x01, 1, 1, 1, 1, 1, 1}
	before := bytes.Clone(whole)
	r := NewReader(whole[:10])
	early := NewReader(whole[:10])
	fill(whole)
	if a, b, c, d := r.U8(), r.Uint(), r.Text(2), string(r.Raw(3)); a != 5 || b != 300 || c != "ab" || d != "xyz" {
		t.Errorf("the argument was kept: %d %d %x %x", a, b, c, d)
	}
	is(t, "within", r, 1, api.OK)
	if x := r.Uint(); x != 0 {
		t.Errorf("what lies behind the length was read: %d", x)
	}
	is(t, "at the end", r, 1, api.ErrForm)
	fill(whole)
	if !bytes.Equal(whole, before) {
		t.Errorf("the argument has changed: %x", whole)
	}
	if x := early.Raw(11); len(x) != 0 {
		t.Errorf("Raw beyond the length: %x", x)
	}
	if x := NewReader(whole[:0]).U8(); x != 0 {
		t.Errorf("U8 beyond the length: %d", x)
	}
}

// P2.4: Raw's answers are new memory; so are two readers of the same bytes.
func TestReaderAnswers(t *testing.T) {
	b := noise(3, 32)
	r, other := NewReader(b), NewReader(b)
	first := r.Raw(8)
	if !bytes.Equal(first, b[:8]) {
		t.Fatalf("Raw: %x", first)
	}
	_ = append(first, 1, 2, 3, 4)
	fill(first)
	second := r.Raw(8)
	if !bytes.Equal(second, b[8:16]) {
		t.Errorf("an answer shares memory with the reader: %x", second)
	}
	fill(second)
	if x := r.Raw(16); !bytes.Equal(x, b[16:]) {
		t.Errorf("an answer shares memory with the reader: %x", x)
	}
	if x := other.Raw(32); !bytes.Equal(x, b) {
		t.Errorf("two readers share memory: %x", x)
	}
	if !bytes.Equal(b, noise(3, 32)) {
		t.Errorf("an answer shares memory with the argument: %x", b)
	}
}

// script makes a list of steps that hangs on seed alone.
func script(seed uint64, steps []step) []step {
	var chosen []step
	for _, x := range noise(seed, 30) {
		seed = seed*31 + uint64(x)
		chosen = append(chosen, steps[seed%uint64(len(steps))])
	}
	return chosen
}

// P2.5: what was written is answered as it was, then there is the end, and written again it is the same bytes.
func TestThereAndBack(t *testing.T) {
	steps := allSteps()
	scripts := [][]step{nil, steps}
	for _, s := range steps {
		scripts = append(scripts, []step{s})
	}
	for seed := range uint64(300) {
		scripts = append(scripts, script(seed, steps))
	}
	for _, all := range scripts {
		w, again := NewWriter(), NewWriter()
		for _, s := range all {
			s.write(w)
		}
		r := NewReader(w.Bytes())
		for i, s := range all {
			got := s.read(r)
			if got != s || r.Err() != api.OK {
				t.Fatalf("call %d, %s: %d, %x, want %d, %x", i, s.name, got.number, got.text, s.number, s.text)
			}
			got.write(again)
		}
		if e := r.End(); e != api.OK || r.Left() != 0 {
			t.Fatalf("End behind %d calls: %d, left %d", len(all), e, r.Left())
		}
		if !bytes.Equal(again.Bytes(), w.Bytes()) {
			t.Fatalf("written again: %x, it was %x", again.Bytes(), w.Bytes())
		}
	}
}

// P2.5: a text is answered with any most that is not below its length.
func TestThereAndBackMost(t *testing.T) {
	for _, s := range someTexts() {
		b := written(func(w *Writer) { w.Text(s) })
		for _, most := range []int{len(s), len(s) + 1, 2*len(s) + 7, math.MaxInt32, math.MaxInt} {
			r := NewReader(b)
			if got := r.Text(most); got != s || r.End() != api.OK {
				t.Errorf("Text(%d) of %d bytes: %d bytes", most, len(s), len(got))
			}
		}
		r := NewReader(b)
		if got := r.Text(len(s) - 1); got != "" || r.Err() != api.ErrForm {
			t.Errorf("Text(%d) of %d bytes: %d bytes", len(s)-1, len(s), len(got))
		}
	}
}

// oneForm asks that what each call takes of b is what the writer writes for the answer.
func oneForm(t *testing.T, b []byte) {
	t.Helper()
	for _, c := range []struct {
		name string
		call func(*Reader, *Writer)
	}{
		{"Uint", func(r *Reader, w *Writer) { w.Uint(r.Uint()) }},
		{"Int", func(r *Reader, w *Writer) { w.Int(r.Int()) }},
		{"Text", func(r *Reader, w *Writer) { w.Text(r.Text(math.MaxInt)) }},
	} {
		r, w := NewReader(b), NewWriter()
		c.call(r, w)
		if r.Err() != api.OK {
			if r.Left() != len(b) {
				t.Fatalf("%s of %x: a fault, and %d left", c.name, b, r.Left())
			}
			continue
		}
		if taken := b[:len(b)-r.Left()]; !bytes.Equal(taken, w.Bytes()) {
			t.Fatalf("%s of %x: taken %x, written %x", c.name, b, taken, w.Bytes())
		}
	}
}

// P2.6: all bytes up to three of some, and long runs with the mark set.
func TestOneForm(t *testing.T) {
	oneForm(t, nil)
	some := []int{0, 1, 2, 3, 0x3F, 0x40, 0x7E, 0x7F, 0x80, 0x81, 0x82, 0xFE, 0xFF}
	for x := range 256 {
		oneForm(t, []byte{byte(x)})
		for y := range 256 {
			oneForm(t, []byte{byte(x), byte(y)})
			for _, z := range some {
				oneForm(t, []byte{byte(x), byte(y), byte(z)})
			}
		}
	}
	for n := range 12 {
		for seed := range uint64(50) {
			b := noise(seed, n+2)
			for i := range n {
				b[i] |= 0x80
			}
			oneForm(t, b)
			for _, x := range some {
				b[n] = byte(x)
				oneForm(t, b)
			}
		}
	}
	for _, b := range noCounted() {
		oneForm(t, []byte(b))
	}
}

// P2.6: no beginning of what one call wrote is read by it.
func TestBeginnings(t *testing.T) {
	for _, s := range allSteps() {
		b := written(s.write)
		for n := range len(b) {
			if n > 200 && n < len(b)-3 {
				continue // of the long texts just both ends
			}
			r := NewReader(b[:n])
			if got := s.read(r); got != (step{name: s.name}) {
				t.Fatalf("%s of %d bytes of %d: %d, %d bytes", s.name, n, len(b), got.number, len(got.text))
			}
			is(t, fmt.Sprintf("%s of %d bytes of %d", s.name, n, len(b)), r, n, api.ErrForm)
		}
	}
}
