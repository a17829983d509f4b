package value

import (
	"fmt"
	"math"
	"math/big"
	"regexp"
	"slices"
	"strings"
	"testing"

	"cadastre/api"
)

const (
	least    = math.MinInt64
	greatest = math.MaxInt64
)

// The values are written out field by field, so that nothing of the package is in what the tests want.
var (
	null = api.Value{Kind: 0}
	no   = api.Value{Kind: 3, N: 0}
	yes  = api.Value{Kind: 3, N: 1}
)

func num(n int64) api.Value   { return api.Value{Kind: 1, N: n} }
func text(s string) api.Value { return api.Value{Kind: 2, S: s} }
func truth(b bool) api.Value {
	if b {
		return yes
	}
	return no
}

// long is a text of n bytes.
func long(n int) string { return strings.Repeat("0123456789abcdef", n/16+1)[:n] }

// sorted are numbers at the edges, rising.
var sorted = []int64{
	least, least + 1, least + 2, -1 << 62, -1<<32 - 1, -1 << 32, -1<<31 - 1, -1 << 31, -65536, -257, -256, -255, -100, -99, -10, -9, -7, -3, -2, -1,
	0, 1, 2, 3, 7, 9, 10, 64, 99, 100, 255, 256, 257, 65536, 1<<31 - 1, 1 << 31, 1<<32 - 1, 1 << 32, 1<<32 + 1, 1 << 62, greatest - 1, greatest,
}

// texts stand in their order: by bytes, a text that begins another one ahead of it.
var texts = []string{
	"", "\x00", "\x00\x00", "\x00\x01", "\x00\xff", "\x01", "\n", " ", "'", "''", "'''", "'a", "-1", "0", "007", "1", "10", "9", "A", "AB", "B", "Z",
	"_", "a", "a\x00", "a'b", "aA", "aa", "ab", "abc", "b", "false", "null", strings.Repeat("q", 63), strings.Repeat("q", 64),
	strings.Repeat("q", 63) + "r", "true", "\x7f", "\x80", "\xc3\xa4", "\xe2\x82\xac", "\xf0\x9f\x98\x80", "\xff", "\xff\x00", "\xff\xfe", strings.Repeat("\xff", 64),
}

// inOrder are values of all kinds in the order of the chapter.
func inOrder() []api.Value {
	values := []api.Value{null, no, yes}
	for _, n := range sorted {
		values = append(values, num(n))
	}
	for _, s := range texts {
		values = append(values, text(s))
	}
	return values
}

// mayNot are values that may not be, of each cause: alone, and with another one.
func mayNot() []api.Value {
	values := []api.Value{
		{Kind: 0, N: 1}, {Kind: 0, N: -1}, {Kind: 0, N: 1 << 32}, {Kind: 0, N: least}, {Kind: 0, S: "a"}, {Kind: 0, S: "\x00"}, {Kind: 0, N: 1, S: "a"},
		{Kind: 1, S: "a"}, {Kind: 1, S: "\x00"}, {Kind: 1, N: 7, S: "7"}, {Kind: 1, N: -1, S: long(64)},
		{Kind: 2, N: 1}, {Kind: 2, N: -1}, {Kind: 2, N: 1, S: "a"}, {Kind: 2, N: 1 << 32, S: "a"}, {Kind: 2, N: least, S: long(64)},
		{Kind: 2, S: long(65)}, {Kind: 2, S: long(66)}, {Kind: 2, S: long(256)}, {Kind: 2, S: long(320)}, {Kind: 2, S: strings.Repeat("'", 65)}, {Kind: 2, S: strings.Repeat("\x00", 65)}, {Kind: 2, N: 1, S: long(65)},
		{Kind: 3, N: 2}, {Kind: 3, N: -1}, {Kind: 3, N: 3}, {Kind: 3, N: 256}, {Kind: 3, N: 1 << 32}, {Kind: 3, N: 1<<32 + 1}, {Kind: 3, N: least}, {Kind: 3, N: least + 1}, {Kind: 3, N: greatest},
		{Kind: 3, S: "a"}, {Kind: 3, N: 1, S: "true"}, {Kind: 3, N: 2, S: "a"},
	}
	for _, kind := range []int{-1, -2, -3, 4, 5, 7, 8, 255, 256, 257, 1 << 32, 1<<32 + 1, math.MinInt, math.MaxInt} {
		values = append(values, api.Value{Kind: kind}, api.Value{Kind: kind, N: 1}, api.Value{Kind: kind, S: "a"}, api.Value{Kind: kind, N: 1, S: "a"})
	}
	return values
}

// a call of two values, or of one.
type (
	binary func(a, b api.Value) (api.Value, api.Errno)
	unary  func(a api.Value) (api.Value, api.Errno)
)

var (
	comparisons = map[string]binary{"Eq": Eq, "Ne": Ne, "Lt": Lt, "Le": Le, "Gt": Gt, "Ge": Ge}
	logics      = map[string]binary{"And": And, "Or": Or}
	reckonings  = map[string]binary{"Add": Add, "Sub": Sub, "Mul": Mul, "Div": Div, "Mod": Mod}
	unaries     = map[string]unary{"Not": Not, "Neg": Neg}
)

// binaries are all calls of two values that answer one.
func binaries() map[string]binary {
	all := map[string]binary{"Join": Join}
	for _, some := range []map[string]binary{comparisons, logics, reckonings} {
		for name, call := range some {
			all[name] = call
		}
	}
	return all
}

// is asks a call's answer; beside an error it is to be zero.
func is(t *testing.T, got api.Value, e api.Errno, want api.Value, wantE api.Errno, what string, of ...api.Value) {
	t.Helper()
	if wantE != api.OK {
		want = api.Value{}
	}
	if got != want || e != wantE {
		t.Errorf("%s of %+v: %+v, %d, want %+v, %d", what, of, got, int(e), want, int(wantE))
	}
}

// P3.1: each value that may be, each that may not.
func TestMay(t *testing.T) {
	for _, v := range inOrder() {
		if !May(v) {
			t.Errorf("May(%+v): false", v)
		}
	}
	for _, v := range mayNot() {
		if May(v) {
			t.Errorf("May(%+v): true", v)
		}
	}
	for n := range 130 {
		if got, want := May(text(long(n))), n <= 64; got != want {
			t.Errorf("May(a text of %d bytes): %v", n, got)
		}
		if got, want := May(text(strings.Repeat("\xe2\x82\xac", n))), 3*n <= 64; got != want {
			t.Errorf("May(a text of %d bytes): %v", 3*n, got)
		}
	}
	for x := range 256 {
		if v := text(string([]byte{byte(x)})); !May(v) {
			t.Errorf("May(%+v): false", v)
		}
	}
	for kind := -300; kind <= 300; kind++ {
		if got, want := May(api.Value{Kind: kind}), kind >= 0 && kind <= 3; got != want {
			t.Errorf("May(kind %d): %v", kind, got)
		}
		if got, want := May(api.Value{Kind: 3, N: int64(kind)}), kind == 0 || kind == 1; got != want {
			t.Errorf("May(the Bool %d): %v", kind, got)
		}
	}
}

// P3.1 to P3.8: ErrForm of every call, on either side, whatever stands on the other one; ahead of all other errors, and of Null.
func TestMayNot(t *testing.T) {
	others := append(inOrder(), mayNot()...)
	for _, bad := range mayNot() {
		for name, call := range unaries {
			got, e := call(bad)
			is(t, got, e, null, api.ErrForm, name, bad)
		}
		if s, e := Print(bad); s != "" || e != api.ErrForm {
			t.Errorf("Print of %+v: %q, %d", bad, s, int(e))
		}
		for _, other := range others {
			for _, of := range [][2]api.Value{{bad, other}, {other, bad}} {
				for name, call := range binaries() {
					got, e := call(of[0], of[1])
					is(t, got, e, null, api.ErrForm, name, of[0], of[1])
				}
				if x, e := Compare(of[0], of[1]); x != 0 || e != api.ErrForm {
					t.Errorf("Compare of %+v: %d, %d", of, x, int(e))
				}
			}
		}
	}
}

// side tells -1, 0 or 1, as i is below j, is it, or above.
func side(i, j int) int {
	switch {
	case i < j:
		return -1
	case i > j:
		return 1
	}
	return 0
}

// P3.2, P3.9: every value against every other one, in the order in which they are written.
func TestCompare(t *testing.T) {
	values := inOrder()
	for i, a := range values {
		for j, b := range values {
			if got, e := Compare(a, b); got != side(i, j) || e != api.OK {
				t.Errorf("Compare(%+v, %+v): %d, %d, want %d", a, b, got, int(e), side(i, j))
			}
		}
	}
}

// P3.2: the chapter's examples, and kinds against kinds.
func TestCompareKnown(t *testing.T) {
	for _, c := range []struct {
		a, b api.Value
		want int
	}{
		{null, no, -1}, {yes, num(-5), -1}, {num(7), text(""), -1}, {text("a"), text("ab"), -1},
		{null, null, 0}, {no, no, 0}, {yes, yes, 0}, {num(-5), num(-5), 0}, {text(""), text(""), 0}, {text("ab"), text("ab"), 0},
		{no, yes, -1}, {null, num(least), -1}, {null, text(""), -1}, {yes, num(least), -1}, {yes, num(0), -1}, {yes, num(1), -1}, {no, num(0), -1}, {num(greatest), text(""), -1},
		{yes, text(""), -1}, {num(-2), num(-1), -1}, {num(9), num(10), -1}, {text("10"), text("9"), -1}, {text("B"), text("a"), -1}, {text("z"), text("\x80"), -1},
		{num(least), num(greatest), -1}, {num(least), num(1), -1}, {num(-1), num(greatest), -1},
	} {
		if got, e := Compare(c.a, c.b); got != c.want || e != api.OK {
			t.Errorf("Compare(%+v, %+v): %d, %d, want %d", c.a, c.b, got, int(e), c.want)
		}
		if got, e := Compare(c.b, c.a); got != -c.want || e != api.OK {
			t.Errorf("Compare(%+v, %+v): %d, %d, want %d", c.b, c.a, got, int(e), -c.want)
		}
	}
}

// P3.9: what is sorted by Compare is the order, from whatever order it was.
func TestSorted(t *testing.T) {
	want := inOrder()
	for step := range len(want) {
		got := slices.Clone(want)
		for i := range got {
			j := (i*7 + step) % len(got)
			got[i], got[j] = got[j], got[i]
		}
		slices.SortFunc(got, func(a, b api.Value) int { x, _ := Compare(a, b); return x })
		if !slices.Equal(got, want) {
			t.Fatalf("sorted from step %d: %+v", step, got)
		}
	}
}

// P3.3: Null on either side, unlike kinds, and of like ones what the order says.
func TestComparisons(t *testing.T) {
	wants := map[string]func(x int) bool{
		"Eq": func(x int) bool { return x == 0 }, "Ne": func(x int) bool { return x != 0 },
		"Lt": func(x int) bool { return x == -1 }, "Le": func(x int) bool { return x != 1 },
		"Gt": func(x int) bool { return x == 1 }, "Ge": func(x int) bool { return x != -1 },
	}
	values := inOrder()
	for name, call := range comparisons {
		for i, a := range values {
			for j, b := range values {
				got, e := call(a, b)
				switch {
				case a == null || b == null:
					is(t, got, e, null, api.OK, name, a, b)
				case a.Kind != b.Kind:
					is(t, got, e, null, api.ErrKind, name, a, b)
				default:
					is(t, got, e, truth(wants[name](side(i, j))), api.OK, name, a, b)
				}
			}
		}
	}
}

// P3.3: the chapter's examples and some beside them, one by one.
func TestComparisonsKnown(t *testing.T) {
	for _, c := range []struct {
		name string
		a, b api.Value
		want api.Value
		e    api.Errno
	}{
		{"Eq", null, num(1), null, api.OK}, {"Eq", num(1), text("1"), null, api.ErrKind}, {"Lt", no, yes, yes, api.OK},
		{"Eq", null, null, null, api.OK}, {"Ne", null, null, null, api.OK}, {"Le", null, null, null, api.OK}, {"Ge", text("a"), null, null, api.OK},
		{"Eq", yes, num(1), null, api.ErrKind}, {"Ne", no, num(0), null, api.ErrKind}, {"Lt", num(1), text("a"), null, api.ErrKind}, {"Gt", text(""), no, null, api.ErrKind},
		{"Eq", num(3), num(3), yes, api.OK}, {"Eq", num(3), num(4), no, api.OK}, {"Ne", num(3), num(3), no, api.OK}, {"Ne", num(3), num(4), yes, api.OK},
		{"Lt", num(3), num(3), no, api.OK}, {"Lt", num(3), num(4), yes, api.OK}, {"Lt", num(4), num(3), no, api.OK},
		{"Le", num(3), num(3), yes, api.OK}, {"Le", num(3), num(4), yes, api.OK}, {"Le", num(4), num(3), no, api.OK},
		{"Gt", num(3), num(3), no, api.OK}, {"Gt", num(3), num(4), no, api.OK}, {"Gt", num(4), num(3), yes, api.OK},
		{"Ge", num(3), num(3), yes, api.OK}, {"Ge", num(3), num(4), no, api.OK}, {"Ge", num(4), num(3), yes, api.OK},
		{"Lt", text("a"), text("ab"), yes, api.OK}, {"Gt", text("b"), text("ab"), yes, api.OK}, {"Eq", text("a"), text("A"), no, api.OK}, {"Ge", yes, no, yes, api.OK},
		{"Lt", num(least), num(greatest), yes, api.OK}, {"Gt", num(greatest), num(least), yes, api.OK},
	} {
		got, e := comparisons[c.name](c.a, c.b)
		is(t, got, e, c.want, c.e, c.name, c.a, c.b)
	}
}

// isTruth tells whether v is Null or a Bool.
func isTruth(v api.Value) bool { return v == null || v == no || v == yes }

// P3.4: the truths, all nine pairs.
func TestLogic(t *testing.T) {
	for _, c := range []struct{ a, b, and, or api.Value }{
		{no, no, no, no}, {no, null, no, null}, {no, yes, no, yes},
		{null, no, no, null}, {null, null, null, null}, {null, yes, null, yes},
		{yes, no, no, yes}, {yes, null, null, yes}, {yes, yes, yes, yes},
	} {
		got, e := And(c.a, c.b)
		is(t, got, e, c.and, api.OK, "And", c.a, c.b)
		got, e = Or(c.a, c.b)
		is(t, got, e, c.or, api.OK, "Or", c.a, c.b)
	}
	for _, c := range [][2]api.Value{{null, null}, {no, yes}, {yes, no}} {
		got, e := Not(c[0])
		is(t, got, e, c[1], api.OK, "Not", c[0])
	}
}

// P3.4: what is no truth is an error on either side, though the other one would decide.
func TestLogicKinds(t *testing.T) {
	for _, a := range inOrder() {
		if isTruth(a) {
			continue
		}
		got, e := Not(a)
		is(t, got, e, null, api.ErrKind, "Not", a)
		for _, b := range inOrder() {
			for name, call := range logics {
				got, e := call(a, b)
				is(t, got, e, null, api.ErrKind, name, a, b)
				got, e = call(b, a)
				is(t, got, e, null, api.ErrKind, name, b, a)
			}
		}
	}
}

// exact tells by numbers of any size what a call makes of two numbers.
func exact(name string, a, b int64) (api.Value, api.Errno) {
	x, y, z := big.NewInt(a), big.NewInt(b), new(big.Int)
	switch name {
	case "Add":
		z.Add(x, y)
	case "Sub":
		z.Sub(x, y)
	case "Mul":
		z.Mul(x, y)
	default:
		if b == 0 {
			return null, api.ErrZero
		}
		rest := new(big.Int)
		z.QuoRem(x, y, rest) // cut off towards 0
		if name == "Mod" {
			z = rest
		}
	}
	if !z.IsInt64() {
		return null, api.ErrOverflow
	}
	return num(z.Int64()), api.OK
}

// numbers are those at the edges of sums and products, and some of every length between.
func numbers() []int64 {
	all := slices.Clone(sorted)
	x := uint64(88172645463325252)
	for k := range 63 {
		p := int64(1) << k
		all = append(all, p-1, p, p+1, -p-1, -p, -p+1)
		for range 3 {
			x ^= x << 13
			x ^= x >> 7
			x ^= x << 17
			all = append(all, int64(x)>>k)
		}
	}
	// Square roots of 2^62 and 2^63, and factors whose products are 2^63, less one, or more one.
	for _, n := range []int64{3037000499, 3037000500, 7, 73, 127, 337, 92737, 649657, greatest / 7, greatest / 73, greatest / 3, greatest / 2, 19, 43, 5419, 77158673929} {
		all = append(all, n-1, n, n+1, -n-1, -n, -n+1)
	}
	slices.Sort(all)
	return slices.Compact(all)
}

// P3.5: every pair of numbers at the edges, against numbers of any size.
func TestReckoning(t *testing.T) {
	all := numbers()
	for name, call := range reckonings {
		for _, a := range all {
			for _, b := range all {
				want, wantE := exact(name, a, b)
				if got, e := call(num(a), num(b)); got != want || e != wantE {
					t.Fatalf("%s(%d, %d): %+v, %d, want %+v, %d", name, a, b, got, int(e), want, int(wantE))
				}
			}
		}
	}
	for _, a := range all {
		want, wantE := exact("Sub", 0, a)
		got, e := Neg(num(a))
		is(t, got, e, want, wantE, "Neg", num(a))
	}
}

// P3.5: small numbers, all pairs.
func TestReckoningSmall(t *testing.T) {
	for name, call := range reckonings {
		for a := int64(-40); a <= 40; a++ {
			for b := int64(-40); b <= 40; b++ {
				want, wantE := exact(name, a, b)
				got, e := call(num(a), num(b))
				is(t, got, e, want, wantE, name, num(a), num(b))
			}
		}
	}
}

// P3.5: the chapter's examples, and the edges of 64 bits, one by one.
func TestReckoningKnown(t *testing.T) {
	for _, c := range []struct {
		name string
		a, b api.Value
		want api.Value
		e    api.Errno
	}{
		{"Div", num(-7), num(2), num(-3), api.OK}, {"Mod", num(-7), num(2), num(-1), api.OK}, {"Div", num(1), num(0), null, api.ErrZero}, {"Div", null, num(0), null, api.OK},
		{"Div", num(least), num(-1), null, api.ErrOverflow}, {"Mod", num(least), num(-1), num(0), api.OK},
		{"Div", num(7), num(-2), num(-3), api.OK}, {"Mod", num(7), num(-2), num(1), api.OK}, {"Div", num(-7), num(-2), num(3), api.OK}, {"Mod", num(-7), num(-2), num(-1), api.OK},
		{"Mod", num(1), num(0), null, api.ErrZero}, {"Mod", null, num(0), null, api.OK}, {"Mod", num(0), num(0), null, api.ErrZero}, {"Div", num(0), num(0), null, api.ErrZero},
		{"Div", num(0), null, null, api.OK}, {"Mod", num(0), null, null, api.OK}, {"Div", null, null, null, api.OK}, {"Div", num(least), num(0), null, api.ErrZero},
		{"Add", num(greatest), num(1), null, api.ErrOverflow}, {"Add", num(least), num(-1), null, api.ErrOverflow}, {"Add", num(least), num(greatest), num(-1), api.OK},
		{"Add", num(greatest), num(greatest), null, api.ErrOverflow}, {"Add", num(least), num(least), null, api.ErrOverflow}, {"Add", num(greatest), num(0), num(greatest), api.OK},
		{"Sub", num(least), num(1), null, api.ErrOverflow}, {"Sub", num(greatest), num(-1), null, api.ErrOverflow}, {"Sub", num(0), num(least), null, api.ErrOverflow},
		{"Sub", num(-1), num(least), num(greatest), api.OK}, {"Sub", num(-1), num(greatest), num(least), api.OK}, {"Sub", num(-2), num(greatest), null, api.ErrOverflow},
		{"Sub", num(least), num(least), num(0), api.OK}, {"Sub", num(5), num(7), num(-2), api.OK},
		{"Mul", num(least), num(-1), null, api.ErrOverflow}, {"Mul", num(-1), num(least), null, api.ErrOverflow}, {"Mul", num(least), num(1), num(least), api.OK},
		{"Mul", num(greatest), num(-1), num(least + 1), api.OK}, {"Mul", num(1 << 31), num(1 << 32), null, api.ErrOverflow}, {"Mul", num(-1 << 31), num(1 << 32), num(least), api.OK},
		{"Mul", num(least), num(0), num(0), api.OK}, {"Mul", num(0), num(least), num(0), api.OK}, {"Mul", num(least), num(least), null, api.ErrOverflow},
		{"Mul", num(1 << 32), num(1 << 32), null, api.ErrOverflow}, {"Mul", num(greatest), num(greatest), null, api.ErrOverflow},
		{"Div", num(least), num(1), num(least), api.OK}, {"Div", num(greatest), num(-1), num(-greatest), api.OK}, {"Div", num(least), num(greatest), num(-1), api.OK}, {"Mod", num(least), num(greatest), num(-1), api.OK},
	} {
		got, e := reckonings[c.name](c.a, c.b)
		is(t, got, e, c.want, c.e, c.name, c.a, c.b)
	}
	for _, c := range []struct {
		a, want api.Value
		e       api.Errno
	}{
		{null, null, api.OK}, {num(0), num(0), api.OK}, {num(5), num(-5), api.OK}, {num(-5), num(5), api.OK}, {num(greatest), num(-greatest), api.OK},
		{num(least + 1), num(greatest), api.OK}, {num(least), null, api.ErrOverflow}, {yes, null, api.ErrKind}, {text("5"), null, api.ErrKind},
	} {
		got, e := Neg(c.a)
		is(t, got, e, c.want, c.e, "Neg", c.a)
	}
}

// P3.5: what is no number is an error on either side, ahead of Null and of 0; with Null there is Null.
func TestReckoningKinds(t *testing.T) {
	for _, a := range inOrder() {
		isNumber := a == null || a.Kind == 1
		for name, call := range reckonings {
			if isNumber {
				got, e := call(a, null)
				is(t, got, e, null, api.OK, name, a, null)
				got, e = call(null, a)
				is(t, got, e, null, api.OK, name, null, a)
				continue
			}
			for _, b := range inOrder() {
				got, e := call(a, b)
				is(t, got, e, null, api.ErrKind, name, a, b)
				got, e = call(b, a)
				is(t, got, e, null, api.ErrKind, name, b, a)
			}
		}
		if !isNumber {
			got, e := Neg(a)
			is(t, got, e, null, api.ErrKind, "Neg", a)
		}
	}
}

// P3.6: of all pairs of values what Join answers.
func TestJoin(t *testing.T) {
	for _, a := range inOrder() {
		for _, b := range inOrder() {
			got, e := Join(a, b)
			switch {
			case a != null && a.Kind != 2 || b != null && b.Kind != 2:
				is(t, got, e, null, api.ErrKind, "Join", a, b)
			case a == null || b == null:
				is(t, got, e, null, api.OK, "Join", a, b)
			case len(a.S)+len(b.S) > 64:
				is(t, got, e, null, api.ErrLong, "Join", a, b)
			default:
				is(t, got, e, text(a.S+b.S), api.OK, "Join", a, b)
			}
		}
	}
}

// P3.6: all lengths; 64 bytes together are allowed, 65 are not.
func TestJoinLengths(t *testing.T) {
	for n := range 65 {
		for m := range 65 {
			a, b := long(n), strings.Repeat("'", m)
			want, wantE := text(a+b), api.OK
			if n+m > 64 {
				wantE = api.ErrLong
			}
			got, e := Join(text(a), text(b))
			is(t, got, e, want, wantE, "Join", text(a), text(b))
		}
	}
	for _, c := range []struct {
		a, b api.Value
		want api.Value
		e    api.Errno
	}{
		{text("ab"), text("cd"), text("abcd"), api.OK}, {text(""), text(""), text(""), api.OK}, {text(""), text("x"), text("x"), api.OK}, {text("x"), text(""), text("x"), api.OK},
		{text(long(40)), text(long(25)), null, api.ErrLong}, {text(long(40)), text(long(24)), text(long(40) + long(24)), api.OK},
		{null, num(1), null, api.ErrKind}, {num(1), null, null, api.ErrKind}, {null, text("a"), null, api.OK}, {text("a"), null, null, api.OK}, {null, null, null, api.OK},
		{yes, text("a"), null, api.ErrKind}, {text("a"), no, null, api.ErrKind}, {text(long(64)), num(1), null, api.ErrKind},
	} {
		got, e := Join(c.a, c.b)
		is(t, got, e, c.want, c.e, "Join", c.a, c.b)
	}
}

// prints are values, and how they are written.
var prints = []struct {
	v api.Value
	s string
}{
	{null, "null"}, {no, "false"}, {yes, "true"},
	{num(0), "0"}, {num(7), "7"}, {num(-7), "-7"}, {num(10), "10"}, {num(-10), "-10"}, {num(100200), "100200"},
	{num(greatest), "9223372036854775807"}, {num(least), "-9223372036854775808"}, {num(least + 1), "-9223372036854775807"}, {num(1000000000000000000), "1000000000000000000"},
	{text(""), "''"}, {text("a"), "'a'"}, {text("it's"), "'it''s'"}, {text("'"), "''''"}, {text("''"), "''''''"}, {text("'a"), "'''a'"}, {text("a'"), "'a'''"},
	{text("null"), "'null'"}, {text("true"), "'true'"}, {text("7"), "'7'"}, {text("\x00"), "'\x00'"}, {text("\n\t\\\""), "'\n\t\\\"'"}, {text("\xff\xfe"), "'\xff\xfe'"}, {text("ä€"), "'\xc3\xa4\xe2\x82\xac'"},
	{text(strings.Repeat("'", 64)), strings.Repeat("'", 130)}, {text(long(64)), "'" + long(64) + "'"},
}

// P3.7, P3.8: known prints, there and back.
func TestPrintKnown(t *testing.T) {
	for _, c := range prints {
		if s, e := Print(c.v); s != c.s || e != api.OK {
			t.Errorf("Print of %+v: %q, %d, want %q", c.v, s, int(e), c.s)
		}
		got, e := Read(c.s)
		if got != c.v || e != api.OK {
			t.Errorf("Read of %q: %+v, %d, want %+v", c.s, got, int(e), c.v)
		}
	}
}

// P3.7, P3.9: prints by a rule of the test's own; Read of Print is the value.
func TestPrintThereAndBack(t *testing.T) {
	values := inOrder()
	for _, n := range numbers() {
		values = append(values, num(n))
	}
	for x := range 256 {
		values = append(values, text(string([]byte{byte(x)})), text("'"+string([]byte{byte(x), '\'', byte(x)})), text(strings.Repeat(string([]byte{byte(x)}), 64)))
	}
	for _, v := range values {
		want := []byte(fmt.Sprint(v.N))
		switch v.Kind {
		case 0:
			want = []byte("null")
		case 3:
			want = []byte(fmt.Sprint(v.N == 1))
		case 2:
			want = []byte{0x27}
			for _, x := range []byte(v.S) {
				want = append(want, x)
				if x == 0x27 {
					want = append(want, x)
				}
			}
			want = append(want, 0x27)
		}
		s, e := Print(v)
		if s != string(want) || e != api.OK {
			t.Errorf("Print of %+v: %q, %d, want %q", v, s, int(e), want)
		}
		if got, e := Read(s); got != v || e != api.OK {
			t.Errorf("Read of %q: %+v, %d, want %+v", s, got, int(e), v)
		}
	}
}

// P3.8: texts that are no value's print.
func TestReadNone(t *testing.T) {
	refused := []string{
		"", " ", "-0", "+0", "+7", "007", "00", "01", "-01", "-00", "-", "--1", "- 1", "1-", "1.0", "1e3", "0x10", "0b1", "0o7", "1_000", "_1", " 1", "1 ", "\n1", "1\x00", "\x001", "１", "٣",
		"9223372036854775808", "-9223372036854775809", "18446744073709551615", "18446744073709551616", "99999999999999999999999999", "0" + strings.Repeat("9", 18), strings.Repeat("1", 200),
		"TRUE", "True", "tRue", "FALSE", "False", "NULL", "Null", "nil", "t", "f", "T", "F", "true ", " true", "truefalse", "tru", "nul", "nulll", "fals", "null\x00", "NaN", "Inf", "infinity",
		"a", "abc", "a'", "'", "'a", "'a''", "'''", "'''''", "'a'b'", "'a'b", "'a' ", " 'a'", "''a'", "'a''b", "a''b'", "'a'''b'", "''a''", "'''a", "'' ''", "\"a\"", "`a`", "\"\"", "'a\"", "\x27", "\x60\x27",
		"'" + long(65) + "'", "'" + long(200) + "'", strings.Repeat("'", 132), strings.Repeat("'", 131), strings.Repeat("'", 129), "'" + long(64), long(64) + "'", "''''" + long(63) + "'", "'" + long(63) + "''''",
		"'" + long(64) + "''", "‘a’", "''x", "x''", "null'", "'null", "''null''", "-'1'", "'1'-",
	}
	for _, s := range refused {
		if got, e := Read(s); got != (api.Value{}) || e != api.ErrForm {
			t.Errorf("Read of %q: %+v, %d", s, got, int(e))
		}
	}
}

// printed are the forms of prints, by the chapter's words; how long a text is, and how great a number, is told beside them.
var printed = regexp.MustCompile(`(?s)^(null|true|false|0|-?[1-9][0-9]*|'([^']|'')*')$`)

// every calls with each text of up to n of the parts, one behind the other.
func every(parts []string, n int, ahead string, call func(string)) {
	call(ahead)
	if n == 0 {
		return
	}
	for _, p := range parts {
		every(parts, n-1, ahead+p, call)
	}
}

// P3.8: all short texts of some parts: read just if they have a print's form, and then printed as they are.
func TestReadAll(t *testing.T) {
	check := func(s string) {
		v, e := Read(s)
		if !printed.MatchString(s) {
			if v != (api.Value{}) || e != api.ErrForm {
				t.Fatalf("Read of %q: %+v, %d", s, v, int(e))
			}
			return
		}
		if e != api.OK || !May(v) {
			t.Fatalf("Read of %q: %+v, %d", s, v, int(e))
		}
		if again, e := Print(v); again != s || e != api.OK {
			t.Fatalf("Read of %q, printed: %q, %d", s, again, int(e))
		}
	}
	every([]string{"'", "a", "\xff", "0"}, 8, "", check)
	every([]string{"-", "+", "0", "1", "9", "_", " "}, 5, "", check)
	every([]string{"null", "true", "false", "'", "7", "N", "e"}, 4, "", check)
	for x := range 256 {
		for y := range 256 {
			check(string([]byte{byte(x), byte(y)}))
			check(string([]byte{'\'', byte(x), byte(y)}))
			check(string([]byte{byte(x), 'a', byte(y)}))
		}
		check(string([]byte{byte(x)}))
	}
}

// P3.8: the numbers around the ends of 64 bits, and ten times as great.
func TestReadEnds(t *testing.T) {
	for _, end := range []int64{least, greatest} {
		for d := int64(-30); d <= 30; d++ {
			x := new(big.Int).Add(big.NewInt(end), big.NewInt(d))
			v, e := Read(x.String())
			if !x.IsInt64() {
				is(t, v, e, null, api.ErrForm, "Read of "+x.String())
				continue
			}
			is(t, v, e, num(x.Int64()), api.OK, "Read of "+x.String())
		}
	}
}

// P3.8: texts of all lengths around MaxText, with 27 in them and without.
func TestReadLengths(t *testing.T) {
	for n := range 140 {
		for _, unit := range []string{"a", "'", "\x00"} {
			s := strings.Repeat(unit, n)
			v, e := Read("'" + strings.ReplaceAll(s, "'", "''") + "'")
			if n > 64 {
				is(t, v, e, null, api.ErrForm, fmt.Sprintf("Read of %d times %q", n, unit))
				continue
			}
			is(t, v, e, text(s), api.OK, fmt.Sprintf("Read of %d times %q", n, unit))
		}
	}
}

// pairs calls with each pair of values.
func pairs(call func(a, b api.Value)) {
	values := inOrder()
	for _, a := range values {
		for _, b := range values {
			call(a, b)
		}
	}
}

// must is a call's answer, which is to be no error.
func must(t *testing.T) func(v api.Value, e api.Errno) api.Value {
	return func(v api.Value, e api.Errno) api.Value {
		t.Helper()
		if e != api.OK {
			t.Fatalf("an error: %d", int(e))
		}
		return v
	}
}

// P3.9: not both is one of the Nots; what does not stand ahead is it or stands behind; Null makes Null.
func TestLaws(t *testing.T) {
	ok := must(t)
	pairs(func(a, b api.Value) {
		if isTruth(a) && isTruth(b) {
			if x, y := ok(Not(ok(And(a, b)))), ok(Or(ok(Not(a)), ok(Not(b)))); x != y {
				t.Errorf("Not of And of %+v, %+v: %+v, Or of the Nots: %+v", a, b, x, y)
			}
			if x, y := ok(Not(ok(Or(a, b)))), ok(And(ok(Not(a)), ok(Not(b)))); x != y {
				t.Errorf("Not of Or of %+v, %+v: %+v, And of the Nots: %+v", a, b, x, y)
			}
		}
		if a != null && b != null && a.Kind != b.Kind {
			return
		}
		for name, opposite := range map[string]string{"Lt": "Ge", "Gt": "Le", "Eq": "Ne"} {
			x, y := ok(Not(ok(comparisons[name](a, b)))), ok(comparisons[opposite](a, b))
			if x != y || (x == null) != (a == null || b == null) {
				t.Errorf("Not of %s of %+v, %+v: %+v, %s: %+v", name, a, b, x, opposite, y)
			}
		}
	})
}

// P3.9: Add and Mul are the same turned round, of all values.
func TestTurnedRound(t *testing.T) {
	pairs(func(a, b api.Value) {
		for _, name := range []string{"Add", "Mul", "And", "Or", "Eq", "Ne"} {
			x, e := binaries()[name](a, b)
			y, f := binaries()[name](b, a)
			if x != y || e != f {
				t.Errorf("%s of %+v, %+v: %+v, %d, turned round: %+v, %d", name, a, b, x, int(e), y, int(f))
			}
		}
	})
}

// P3.5, P3.9: a is b times Div, and Mod more; what is left over is less than b and has a's sign.
func TestLeftOver(t *testing.T) {
	ok := must(t)
	for _, a := range numbers() {
		for _, b := range numbers() {
			if b == 0 || a == least && b == -1 {
				continue
			}
			over := ok(Mod(num(a), num(b)))
			if got := ok(Add(ok(Mul(num(b), ok(Div(num(a), num(b))))), over)); got != num(a) {
				t.Fatalf("%d divided by %d: put together %+v", a, b, got)
			}
			if size := new(big.Int).Abs(big.NewInt(over.N)); size.Cmp(new(big.Int).Abs(big.NewInt(b))) >= 0 || over.N != 0 && (over.N < 0) != (a < 0) {
				t.Fatalf("%d divided by %d: left over %d", a, b, over.N)
			}
		}
	}
}

// P3.2 to P3.7: whatever one call answers may be handed to the next one.
func TestAnswersMay(t *testing.T) {
	pairs(func(a, b api.Value) {
		for name, call := range binaries() {
			if got, _ := call(a, b); !May(got) {
				t.Errorf("%s of %+v, %+v: %+v may not be", name, a, b, got)
			}
		}
	})
}
