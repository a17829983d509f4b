package rows

import (
	"math"
	"slices"
	"strings"
	"testing"

	"cadastre/api"
)

const (
	least    = math.MinInt64
	greatest = math.MaxInt64
)

// The values are written out field by field, so that nothing of the program is in what the tests want.
var (
	null = api.Value{Kind: 0}
	no   = api.Value{Kind: 3, N: 0}
	yes  = api.Value{Kind: 3, N: 1}
)

func num(n int64) api.Value               { return api.Value{Kind: 1, N: n} }
func text(s string) api.Value             { return api.Value{Kind: 2, S: s} }
func row(values ...api.Value) []api.Value { return values }

// long is a text of n bytes.
func long(n int) string { return strings.Repeat("0123456789abcdef", n/16+1)[:n] }

// times is a row of a value n times.
func times(n int, v api.Value) []api.Value { return slices.Repeat([]api.Value{v}, n) }

// letters are names, as many as there may be columns and one more.
const letters = "abcdefghijklmnopq"

// columns are columns by their kinds: i, t, b an Int, a Text, a Bool; I, T, B the same with Need.
func columns(kinds string) []api.Column {
	var cols []api.Column
	for i, k := range kinds {
		at := strings.IndexRune("itbITB", k)
		cols = append(cols, api.Column{Name: letters[i : i+1], Kind: at%3 + 1, Need: at >= 3})
	}
	return cols
}

// mayNot are values that may not be, of each cause.
func mayNot() []api.Value {
	return []api.Value{
		{Kind: 0, N: 1}, {Kind: 0, S: "a"}, {Kind: 1, S: "a"}, {Kind: 1, N: 7, S: "7"}, {Kind: 2, N: 1}, {Kind: 2, N: 1, S: "a"}, {Kind: 2, S: long(65)}, {Kind: 2, S: long(300)},
		{Kind: 2, S: strings.Repeat("\x00", 65)}, {Kind: 3, N: 2}, {Kind: 3, N: -1}, {Kind: 3, S: "a"}, {Kind: 3, N: 1, S: "true"}, {Kind: 3, N: 256}, {Kind: 3, N: 1<<32 + 1},
		{Kind: 4}, {Kind: 5}, {Kind: -1}, {Kind: 255}, {Kind: 256}, {Kind: 1 << 32}, {Kind: 4, N: 1, S: "a"}, {Kind: math.MaxInt}, {Kind: math.MinInt},
	}
}

// colsMayNot are columns that may not be, of each cause.
func colsMayNot() [][]api.Column {
	a, b := api.Column{Name: "a", Kind: 1}, api.Column{Name: "b", Kind: 2, Need: true}
	bad := [][]api.Column{nil, {}, {a, a}, {a, b, a}, {b, a, {Name: "a", Kind: 3, Need: true}}, columns(strings.Repeat("i", 17)), slices.Repeat([]api.Column{a}, 17)}
	for _, name := range []string{"", "A", "1a", "_a", "aB", "a b", "a-", "a.b", "ä", "a\x00", long(25), strings.Repeat("a", 25)} {
		bad = append(bad, []api.Column{{Name: name, Kind: 1}}, []api.Column{a, {Name: name, Kind: 1}}, []api.Column{{Name: name, Kind: 1}, a})
	}
	for _, kind := range []int{0, 4, 5, -1, -2, 255, 256, 257, 1<<32 + 1, math.MaxInt, math.MinInt} {
		bad = append(bad, []api.Column{{Name: "a", Kind: kind}}, []api.Column{a, {Name: "b", Kind: kind, Need: true}}, []api.Column{{Name: "b", Kind: kind}, a})
	}
	return bad
}

// named asks what Name tells of a text.
func named(t *testing.T, s string, want bool) {
	t.Helper()
	if got := Name(s); got != want {
		t.Errorf("Name(%q): %v", s, got)
	}
}

// P5.1: known names, the chapter's examples first.
func TestNameKnown(t *testing.T) {
	for _, s := range []string{"a", "a_1", "z", "abc", "a1", "a_", "a__", "z9_", "select", "null", "zzzzzzzzzzzzzzzzzzzzzzzz", "a00000000000000000000000"} {
		named(t, s, true)
	}
	for _, s := range []string{"_a", "A", "1a", "", "_", "9", "aA", "a a", " a", "a ", "a-b", "a.b", "a\n", "\x00", "a\x00", "ab\xff", "ä", "aä", "ａ", "'a'", "\"a\"", "a,b", strings.Repeat("a", 25)} {
		named(t, s, false)
	}
}

// P5.1: texts of every length: 1 to 24 bytes, whatever the bytes.
func TestNameLengths(t *testing.T) {
	named(t, "", false)
	for n := 1; n < 100; n++ {
		for _, s := range []string{strings.Repeat("a", n), "z" + strings.Repeat("_", n-1), "q" + strings.Repeat("9", n-1)} {
			named(t, s, n <= 24)
		}
	}
	named(t, strings.Repeat("a", 256), false)
	named(t, strings.Repeat("a", 256+24), false)
	named(t, strings.Repeat("a", 1<<16+1), false)
}

// P5.1: each byte as the first one, alone and with others behind it, and at each later place.
func TestNameBytes(t *testing.T) {
	const first = "abcdefghijklmnopqrstuvwxyz"
	const later = first + "0123456789_"
	for x := range 256 {
		b := string([]byte{byte(x)})
		begins, goesOn := strings.Contains(first, b), strings.Contains(later, b)
		named(t, b, begins)
		named(t, b+"a", begins)
		named(t, b+strings.Repeat("a", 23), begins)
		named(t, b+strings.Repeat("a", 24), false)
		for at := 1; at < 24; at++ {
			name := []byte(strings.Repeat("a", 24))
			name[at] = byte(x)
			named(t, string(name), goesOn)
			named(t, string(name[:at+1]), goesOn)
		}
	}
}

// P5.1: columns that may be: 1 to 16, of every kind, with Need and without.
func TestMay(t *testing.T) {
	for n := range 18 {
		for _, kind := range []string{"i", "t", "b", "I", "T", "B"} {
			cols := columns(strings.Repeat(kind, min(n, 17)))
			if got := May(cols); got != (n >= 1 && n <= 16) {
				t.Errorf("May of %d columns %s: %v", n, kind, got)
			}
		}
	}
	for _, cols := range [][]api.Column{
		columns("itb"), columns("ITB"), columns("iTbItB"), {{Name: "a_1", Kind: 1}, {Name: "a_2", Kind: 1}, {Name: "a", Kind: 1}, {Name: "aa", Kind: 1}}, {{Name: strings.Repeat("z", 24), Kind: 3}},
	} {
		if !May(cols) {
			t.Errorf("May of %+v: false", cols)
		}
	}
}

// P5.1: columns that may not be, by cause; one more column does not heal them.
func TestMayNot(t *testing.T) {
	for _, cols := range colsMayNot() {
		if May(cols) {
			t.Errorf("May of %+v: true", cols)
		}
		if len(cols) > 0 && May(append(slices.Clone(cols), api.Column{Name: "more", Kind: 1})) {
			t.Errorf("May of %+v and one more: true", cols)
		}
	}
	many := make([]api.Column, 1<<16+1)
	for i := range many {
		many[i] = api.Column{Name: "a", Kind: 1}
	}
	for _, n := range []int{17, 256, 257, 1 << 16, 1<<16 + 1} {
		if May(many[:n]) {
			t.Errorf("May of %d columns: true", n)
		}
	}
}

// P5.1: of 16 columns any two that have one name, and any one that has none or is of no kind.
func TestMayPlaces(t *testing.T) {
	for i := range 16 {
		for k := range i {
			cols := columns(strings.Repeat("itbI", 4))
			cols[i].Name = cols[k].Name
			if May(cols) {
				t.Errorf("May, names %d and %d alike: true", k, i)
			}
		}
		for _, spoil := range []func(c *api.Column){
			func(c *api.Column) { c.Name = "" }, func(c *api.Column) { c.Name = "A" }, func(c *api.Column) { c.Kind = 0 }, func(c *api.Column) { c.Kind = 4 }, func(c *api.Column) { c.Kind = -1 },
		} {
			cols := columns(strings.Repeat("itbI", 4))
			spoil(&cols[i])
			if May(cols) {
				t.Errorf("May of %+v: true", cols)
			}
		}
	}
}

// fits asks what Fits tells, and that Encode tells the same, if it is an error.
func fits(t *testing.T, cols []api.Column, r []api.Value, want api.Errno) {
	t.Helper()
	if e := Fits(cols, r); e != want {
		t.Errorf("Fits(%+v, %+v): %d, want %d", cols, r, int(e), int(want))
	}
	s, e := Encode(cols, r)
	if want != api.OK && (s != "" || e != want) {
		t.Errorf("Encode(%+v, %+v): %x, %d, want %d", cols, r, s, int(e), int(want))
	}
	if want == api.OK && e != api.OK && e != api.ErrWide {
		t.Errorf("Encode(%+v, %+v): %d", cols, r, int(e))
	}
}

// P5.2, P5.3: each kind of value in each kind of column, with Need and without.
func TestFits(t *testing.T) {
	values := row(null, num(least), num(-1), num(0), num(1), num(greatest), text(""), text("a"), text("1"), text(long(64)), no, yes)
	for _, kind := range "itbITB" {
		cols := columns(string(kind))
		for _, v := range values {
			want := api.OK
			switch {
			case v == null && cols[0].Need:
				want = api.ErrNull
			case v != null && v.Kind != cols[0].Kind:
				want = api.ErrKind
			}
			fits(t, cols, row(v), want)
		}
		for _, bad := range mayNot() {
			fits(t, cols, row(bad), api.ErrForm)
		}
	}
}

// P5.2, P5.3: columns that may not be, and another number of values, come ahead of all that is wrong with a value.
func TestFitsArg(t *testing.T) {
	for _, cols := range colsMayNot() {
		fits(t, cols, times(len(cols), num(1)), api.ErrArg)
		fits(t, cols, times(len(cols), null), api.ErrArg)
		fits(t, cols, times(len(cols)+1, null), api.ErrArg)
		fits(t, cols, nil, api.ErrArg)
		fits(t, cols, times(len(cols), api.Value{Kind: 4}), api.ErrArg)
	}
	for n := 1; n <= 16; n++ {
		cols := columns(strings.Repeat("I", n))
		for m := range 35 {
			if m != n {
				fits(t, cols, times(m, num(1)), api.ErrArg)
				fits(t, cols, times(m, null), api.ErrArg)
				fits(t, cols, times(m, api.Value{Kind: 4}), api.ErrArg)
			}
		}
		fits(t, cols, times(n+256, num(1)), api.ErrArg)
		fits(t, cols, times(n+1<<16, num(1)), api.ErrArg)
		fits(t, cols, times(n, num(1)), api.OK)
	}
}

// P5.2, P5.3: of several values that are wrong, each in its own way, the first one's error; of one that is wrong in several ways ErrForm.
func TestFitsFirst(t *testing.T) {
	wrong := []struct {
		v api.Value
		e api.Errno
	}{
		{api.Value{Kind: 2, S: long(65)}, api.ErrForm}, {api.Value{Kind: 0, N: 1}, api.ErrForm}, {api.Value{Kind: 1, S: "a"}, api.ErrForm}, {api.Value{Kind: 3, N: 2}, api.ErrForm}, {api.Value{Kind: 9}, api.ErrForm},
		{text("a"), api.ErrKind}, {yes, api.ErrKind}, {null, api.ErrNull},
	}
	cols := columns(strings.Repeat("I", 16))
	for _, first := range wrong {
		for _, second := range wrong {
			for i := range 16 {
				for k := i + 1; k < 16; k++ {
					r := times(16, num(7))
					r[i], r[k] = first.v, second.v
					fits(t, cols, r, first.e)
				}
			}
		}
	}
	fits(t, columns("iTb"), row(num(1), num(2), null), api.ErrKind)
	fits(t, columns("iTb"), row(num(1), null, api.Value{Kind: 4}), api.ErrNull)
	fits(t, columns("iTb"), row(null, text(""), api.Value{Kind: 4}), api.ErrForm)
	fits(t, columns("iTb"), row(null, text(""), null), api.OK)
}

// P5.2, P5.3: a column's Need and kind hold for its own value alone.
func TestFitsPlaces(t *testing.T) {
	for i := range 16 {
		need := columns(strings.Repeat("i", 16))
		need[i].Need = true
		other := columns(strings.Repeat("i", 16))
		other[i].Kind = 2
		for k := range 16 {
			r := times(16, num(7))
			r[k] = null
			if i == k {
				fits(t, need, r, api.ErrNull)
			} else {
				fits(t, need, r, api.OK)
			}
			r[k] = text("a")
			if i == k {
				fits(t, other, r, api.OK)
			} else {
				fits(t, other, r, api.ErrKind)
			}
		}
	}
}

// P1: what is handed in stays as it is, and so does what lies behind its length, which is not read either.
func TestHandedIn(t *testing.T) {
	for _, bad := range append(mayNot(), null) {
		values := row(null, num(-1), text("a"), yes, bad, bad, bad)
		cols := append(columns("itTB"), api.Column{Name: "a", Kind: 9}, api.Column{Name: "", Kind: bad.Kind})
		keptValues, keptCols := slices.Clone(values), slices.Clone(cols)
		s, e := Encode(cols[:4], []api.Value{null, null, text("a"), yes})
		if s != "\x03\x01a\x01" || e != api.OK {
			t.Errorf("Encode: %x, %d", s, int(e))
		}
		if !May(cols[:4]) || Fits(cols[:4], values[:4]) != api.ErrKind || Fits(cols[1:4], values[2:5]) == api.OK {
			t.Error("what lies behind the length was read")
		}
		r, e := Decode(cols[:4], "\x03\x01a\x01")
		if !slices.Equal(r, row(null, null, text("a"), yes)) || e != api.OK {
			t.Errorf("Decode: %+v, %d", r, int(e))
		}
		if !slices.Equal(values, keptValues) || !slices.Equal(cols, keptCols) {
			t.Errorf("what was handed in is %+v, %+v", values, cols)
		}
	}
}

// P1: what Decode answers is new memory each time, behind its length too.
func TestNewMemory(t *testing.T) {
	cols := columns("itB")
	want := row(num(7), null, yes)
	first, _ := Decode(cols, "\x02\x0e\x01")
	second, _ := Decode(cols, "\x02\x0e\x01")
	for i := range first[:cap(first)] {
		first[:cap(first)][i] = text("changed")
	}
	third, e := Decode(cols, "\x02\x0e\x01")
	if e != api.OK || !slices.Equal(second, want) || !slices.Equal(third, want) {
		t.Errorf("Decode: %+v, then %+v, %d", second, third, int(e))
	}
}
