package sum

import (
	"bytes"
	"hash/crc32"
	"testing"
)

// noise makes n bytes that hang on seed alone.
func noise(seed uint64, n int) []byte {
	b := make([]byte, n)
	x := seed*0x9E3779B97F4A7C15 + 1
	for i := range b {
		x ^= x << 13
		x ^= x >> 7
		x ^= x << 17
		b[i] = byte(x >> 24)
	}
	return b
}

// counting makes the bytes first, first + by, first + 2 by ..
func counting(first, by, n int) []byte {
	b := make([]byte, n)
	for i := range b {
		b[i] = byte(first + i*by)
	}
	return b
}

// joined makes new memory of texts, one behind the other.
func joined(texts ...[]byte) []byte { return bytes.Join(texts, nil) }

// register is the chapter's own rule, bit by bit, with nothing of the package in it.
func register(r uint32, b []byte) uint32 {
	for _, x := range b {
		r ^= uint32(x)
		for k := 0; k < 8; k++ {
			low := r % 2
			r /= 2
			if low == 1 {
				r ^= 0x82F63B78
			}
		}
	}
	return r
}

// P1.1: known sums, those of the chapter's examples first.
func TestOfKnown(t *testing.T) {
	for _, c := range []struct {
		name string
		b    []byte
		want uint32
	}{
		{"nil", nil, 0},
		{"no bytes", []byte{}, 0},
		{"123456789", []byte("123456789"), 0xE3069283},
		{"one nought", []byte{0}, 0x527D5351},
		{"32 noughts", make([]byte, 32), 0x8A9136AA},
		{"32 times FF", bytes.Repeat([]byte{0xFF}, 32), 0x62A8AB43},
		{"0 to 31", counting(0, 1, 32), 0x46DD794E},
		{"31 to 0", counting(31, -1, 32), 0x113FDB5C},
	} {
		if got := Of(c.b); got != c.want {
			t.Errorf("Of(%s): %08X, want %08X", c.name, got, c.want)
		}
	}
}

// P1.1: every single byte, every length up to a sector's and some beyond it.
func TestOfByRule(t *testing.T) {
	for x := 0; x < 256; x++ {
		b := []byte{byte(x)}
		if got, want := Of(b), ^register(0xFFFFFFFF, b); got != want {
			t.Errorf("Of(%02X): %08X, want %08X", x, got, want)
		}
	}
	table := crc32.MakeTable(crc32.Castagnoli)
	for n := 0; n <= 520; n++ {
		b := noise(uint64(n), n)
		if got, want := Of(b), ^register(0xFFFFFFFF, b); got != want {
			t.Fatalf("Of(%d bytes): %08X, want %08X", n, got, want)
		}
		if got, want := Of(b), crc32.Checksum(b, table); got != want {
			t.Fatalf("Of(%d bytes): %08X, the library tells %08X", n, got, want)
		}
	}
	big := noise(7, 1<<20)
	if got, want := Of(big), crc32.Checksum(big, table); got != want {
		t.Errorf("Of(2^20 bytes): %08X, want %08X", got, want)
	}
}

// P1.1: More goes on from any number, as the register with its bits turned.
func TestMore(t *testing.T) {
	if got := More(Of([]byte("1234")), []byte("56789")); got != 0xE3069283 {
		t.Errorf("More(Of(1234), 56789): %08X", got)
	}
	for _, s := range []uint32{0, 1, 2, 0x80000000, 0x7FFFFFFF, 0xFFFFFFFE, 0xFFFFFFFF, 0x82F63B78, 0xE3069283} {
		if got := More(s, nil); got != s {
			t.Errorf("More(%08X, nil): %08X", s, got)
		}
		if got := More(s, []byte{}); got != s {
			t.Errorf("More(%08X, no bytes): %08X", s, got)
		}
		for n := 1; n <= 40; n++ {
			b := noise(uint64(s)+uint64(n), n)
			if got, want := More(s, b), ^register(^s, b); got != want {
				t.Fatalf("More(%08X, %d bytes): %08X, want %08X", s, n, got, want)
			}
		}
	}
}

// P1.2: what a sealed text looks like.
func TestSealForm(t *testing.T) {
	for _, c := range []struct{ b, want []byte }{
		{nil, []byte{0, 0, 0, 0}},
		{[]byte{}, []byte{0, 0, 0, 0}},
		{[]byte{0}, []byte{0, 0x51, 0x53, 0x7D, 0x52}},
		{[]byte("123456789"), []byte("123456789\x83\x92\x06\xE3")},
	} {
		if got := Seal(c.b); !bytes.Equal(got, c.want) {
			t.Errorf("Seal(%X): %X, want %X", c.b, got, c.want)
		}
	}
	for n := 0; n <= 520; n++ {
		b := noise(uint64(n), n)
		s := ^register(0xFFFFFFFF, b)
		want := joined(b, []byte{byte(s), byte(s >> 8), byte(s >> 16), byte(s >> 24)})
		if got := Seal(b); !bytes.Equal(got, want) {
			t.Fatalf("Seal(%d bytes): %X, want %X", n, got, want)
		}
	}
}

// P1.2: what is opened, told by bytes that Seal did not make.
func TestOpenForm(t *testing.T) {
	for _, c := range []struct{ b, want string }{
		{"\x00\x00\x00\x00", ""},
		{"\x00\x51\x53\x7D\x52", "\x00"},
		{"123456789\x83\x92\x06\xE3", "123456789"},
	} {
		got, ok := Open([]byte(c.b))
		if string(got) != c.want || !ok {
			t.Errorf("Open(%X): %X, %v", c.b, got, ok)
		}
	}
}

// P1.2: what is too short, or has another sum, is none; nothing stands beside false.
func TestOpenNone(t *testing.T) {
	refused := []string{
		"", "\x00", "\x00\x00", "\x00\x00\x00", "abc",
		"\x00\x00\x00\x01", "\x01\x00\x00\x00", "\x00\x01\x00\x00", "\x00\x00\x01\x00", "\xFF\xFF\xFF\xFF",
		"\x00\x52\x7D\x53\x51",             // the highest byte first
		"\x51\x53\x7D\x52\x00",             // the sum ahead
		"\x00\xAE\xAC\x82\xAD",             // the register's bits not turned
		"\x00\x51\x53\x7D\x52\x00",         // a byte behind it
		"123456789\x83\x92\x06",            // its end is missing
		"12345678\x83\x92\x06\xE3",         // a byte of the text is missing
		"123456789\x83\x92\x06\xE3\x00",    // one too many
		"\x00\x00\x00\x00\x00\x00\x00\x00", // four noughts have not the sum 0
	}
	for _, x := range refused {
		if got, ok := Open([]byte(x)); got != nil || ok {
			t.Errorf("Open(%X): %X, %v", x, got, ok)
		}
	}
	if got, ok := Open(nil); got != nil || ok {
		t.Errorf("Open(nil): %X, %v", got, ok)
	}
}

// P1.3: what is handed in stays, and so does what lies behind its length, which is not read either.
func TestArgumentsStay(t *testing.T) {
	sealed := Seal([]byte("a text of some bytes"))
	calls := map[string]func([]byte) any{
		"Of":   func(b []byte) any { return Of(b) },
		"More": func(b []byte) any { return More(12345, b) },
		"Seal": func(b []byte) any { return string(Seal(b)) },
		"Open": func(b []byte) any { x, ok := Open(b); return [2]any{string(x), ok} },
	}
	for name, call := range calls {
		for _, text := range [][]byte{{}, []byte("abc"), {0, 0, 0, 0}, sealed, sealed[:len(sealed)-1]} {
			var answers []any
			for _, behind := range []byte{0, 0xAA} {
				whole := joined(text, bytes.Repeat([]byte{behind}, 16))
				before := bytes.Clone(whole)
				answers = append(answers, call(whole[:len(text)]))
				if !bytes.Equal(whole, before) {
					t.Errorf("%s(%X) has changed its argument's memory: %X, it was %X", name, text, whole, before)
				}
			}
			if answers[0] != answers[1] {
				t.Errorf("%s(%X) hangs on what lies behind it: %#v, %#v", name, text, answers[0], answers[1])
			}
		}
	}
}

// fill writes over all the memory of a list, that behind its length too.
func fill(b []byte) {
	b = b[:cap(b)]
	for i := range b {
		b[i] ^= 0xFF
	}
}

// P1.3: what is answered is new memory: neither the argument's nor an earlier answer's.
func TestAnswersAreNew(t *testing.T) {
	open := func(b []byte) []byte { x, _ := Open(b); return x }
	for _, n := range []int{0, 1, 4, 508} {
		plain := noise(uint64(n), n)
		for name, c := range map[string]struct {
			call func([]byte) []byte
			text []byte
		}{"Seal": {Seal, plain}, "Open": {open, Seal(plain)}} {
			arg := make([]byte, len(c.text), len(c.text)+16)
			copy(arg, c.text)
			first := c.call(arg)
			want := bytes.Clone(first)
			second := c.call(arg)
			fill(first)
			if !bytes.Equal(arg, c.text) {
				t.Errorf("%s of %d bytes: the answer shares the argument's memory", name, n)
			}
			if !bytes.Equal(second, want) {
				t.Errorf("%s of %d bytes: two answers share memory", name, n)
			}
			fill(arg)
			if !bytes.Equal(second, want) {
				t.Errorf("%s of %d bytes: the argument was kept", name, n)
			}
		}
	}
}

// P1.4: a text may be summed in parts.
func TestPartsJoin(t *testing.T) {
	for n := 0; n <= 40; n++ {
		b := noise(uint64(n)+99, n)
		for i := 0; i <= n; i++ {
			if got, want := More(Of(b[:i]), b[i:]), Of(b); got != want {
				t.Fatalf("%d and %d bytes: %08X, want %08X", i, n-i, got, want)
			}
			for _, s := range []uint32{0, 1, 0xDEADBEEF, 0xFFFFFFFF} {
				if got, want := More(More(s, b[:i]), b[i:]), More(s, b); got != want {
					t.Fatalf("from %08X, %d and %d bytes: %08X, want %08X", s, i, n-i, got, want)
				}
			}
		}
	}
}

// P1.4: the sum of texts that are xored.
func TestXored(t *testing.T) {
	for n := 0; n <= 520; n++ {
		a, b := noise(uint64(2*n), n), noise(uint64(2*n+1), n)
		c := make([]byte, n)
		for i := range c {
			c[i] = a[i] ^ b[i]
		}
		if got, want := Of(c), Of(a)^Of(b)^Of(make([]byte, n)); got != want {
			t.Fatalf("%d bytes: %08X, want %08X", n, got, want)
		}
	}
}

// P1.5: there and back.
func TestOpenSealed(t *testing.T) {
	texts := [][]byte{nil, {}, {0}, {0xFF}, make([]byte, 4), make([]byte, 508), Seal(nil), Seal([]byte("sealed twice"))}
	for n := 0; n <= 520; n++ {
		texts = append(texts, noise(uint64(n), n))
	}
	for _, b := range texts {
		got, ok := Open(Seal(b))
		if !ok || !bytes.Equal(got, b) {
			t.Fatalf("Open of %d bytes sealed: %d bytes, %v", len(b), len(got), ok)
		}
	}
}

// turned makes a text with bits turned, from bit k on, where pattern's bits are 1. An odd pattern turns bit k at least, at the text's end too.
func turned(b []byte, k int, pattern uint32) []byte {
	x := bytes.Clone(b)
	for i := 0; i < 32 && k+i < 8*len(x); i++ {
		if pattern>>i&1 == 1 {
			x[(k+i)/8] ^= 1 << ((k + i) % 8)
		}
	}
	return x
}

// P1.5: bits turned within 32 side by side: of one, of two, of all, of some.
func TestTurnedBits(t *testing.T) {
	patterns := []uint32{1, 0xFFFFFFFF, 0x82F63B79, 0x05EC76F1, 0x1EDC6F41}
	for i := 1; i < 32; i++ {
		patterns = append(patterns, 1|1<<i, 1<<i-1, 1|1<<31|1<<i)
	}
	for i, x := range noise(31, 4*60) {
		if i%4 == 0 {
			patterns = append(patterns, 1)
		}
		patterns[len(patterns)-1] |= uint32(x) << (i % 4 * 8)
	}
	for _, n := range []int{0, 1, 3, 4, 17, 60} {
		sealed := Seal(noise(uint64(n)+5, n))
		for k := 0; k < 8*len(sealed); k++ {
			for _, p := range patterns {
				if got, ok := Open(turned(sealed, k, p)); got != nil || ok {
					t.Fatalf("%d bytes, from bit %d on %08X turned: opened, %X", n, k, p, got)
				}
			}
		}
	}
}

// P1.5: one byte changed, wherever and to whatever.
func TestChangedByte(t *testing.T) {
	for _, n := range []int{0, 1, 12, 124} {
		sealed := Seal(noise(uint64(n)+6, n))
		for at := range sealed {
			for x := 1; x < 256; x++ {
				sealed[at] ^= byte(x)
				if got, ok := Open(sealed); got != nil || ok {
					t.Fatalf("%d bytes, byte %d xored with %02X: opened, %X", n, at, x, got)
				}
				sealed[at] ^= byte(x)
			}
		}
	}
}
