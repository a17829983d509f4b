package lock

import (
	"math"
	"strings"
	"testing"

	"cadastre/api"
)

// The chapter's examples, one by one.
func TestExamples(t *testing.T) {
	x := New()
	asks(t, x, 1, table(5), modeS, true)
	asks(t, x, 2, table(5), modeIX, false)
	asks(t, x, 3, table(5), modeIS, true)
	asksNot(t, x, 2, table(5), modeIX, errWait)
	waits(t, x, 0, [2]uint32{2, 1})
	asks(t, x, 1, table(5), modeX, false)
	waits(t, x, 0, [2]uint32{1, 3}, [2]uint32{2, 1})
	releases(t, x, 3, 1)
	releases(t, x, 1, 2)
	x = New()
	asks(t, x, 1, keys(7, "a", "c"), modeS, true)
	asks(t, x, 2, keys(7, "c", "d"), modeX, true)
	asks(t, x, 2, keys(7, "b", "c"), modeS, true)
	asks(t, x, 3, keys(7, "a", ""), modeX, false)
}

// allModes are the four modes.
func allModes() []int { return []int{modeIS, modeIX, modeS, modeX} }

// noModes are numbers that are no mode.
func noModes() []int {
	return []int{0, -1, 5, 6, -4, 8, 255, 256, 257, 1<<32 + modeX, math.MaxInt, math.MinInt, math.MinInt + modeX}
}

// P12.1: a new table has no locks; two new ones are two.
func TestNew(t *testing.T) {
	x, y := New(), New()
	stands(t, x)
	waits(t, x, 0)
	releases(t, x, 1)
	has(t, x, 1, table(1), modeIS, false)
	asks(t, x, 1, table(1), modeX, true)
	stands(t, y)
	asks(t, y, 2, table(1), modeX, true)
	stands(t, x, held(1, table(1), modeX))
}

// P12.1: all pairs of modes, on a table and on ranges that meet.
func TestModes(t *testing.T) {
	for _, a := range allModes() {
		for _, b := range allModes() {
			want := !said(conflicting, a, b)
			asks(t, tableOf(t, asking{1, table(3), a, true}), 2, table(3), b, want)
			if a >= modeS && b >= modeS {
				asks(t, tableOf(t, asking{1, keys(3, "a", "c"), a, true}), 2, keys(3, "b", "d"), b, want)
			}
			asks(t, tableOf(t, asking{1, table(3), a, true}), 1, table(3), b, true)
		}
	}
}

// longest is a text of as many bytes as an end may have, or more.
func longest(more int) string { return strings.Repeat("k", mostBound+more) }

// rightThings are things that may be.
func rightThings() []api.Thing {
	return []api.Thing{table(0), table(1), table(math.MaxUint32),
		keys(0, "", ""), keys(math.MaxUint32, "", ""), keys(1, "", "a"), keys(1, "", "\x00"), keys(1, "a", ""), keys(1, "a", "b"), keys(1, "a", "a\x00"), keys(1, "a", "aa"), keys(1, "\x7f", "\x80"), keys(1, "\xfe", "\xff"),
		keys(1, longest(0), ""), keys(1, "", longest(0)), keys(1, "a", longest(0)), keys(1, longest(-1), longest(0)), keys(1, longest(0), "l")}
}

// wrongThings are things that may not be.
func wrongThings() []api.Thing {
	return []api.Thing{{Id: 1, From: "a"}, {Id: 1, To: "a"}, {Id: 1, From: "a", To: "b"}, {Id: 1, From: "\x00"}, {Id: 1, To: longest(1)},
		keys(1, "a", "a"), keys(1, "b", "a"), keys(1, "a\x00", "a"), keys(1, "\x00", "\x00"), keys(1, "\xff", "a"), keys(1, "b", "aaaa"), keys(1, longest(0), longest(0)), keys(1, longest(0), longest(-1)),
		keys(1, longest(1), ""), keys(1, "", longest(1)), keys(1, "a", longest(1)), keys(1, longest(1), "l"), keys(1, longest(0), longest(1)), keys(1, longest(1), longest(2)), keys(1, strings.Repeat("a", 1<<16), "")}
}

// P12.1, P12.3: which things may be, in which modes.
func TestThings(t *testing.T) {
	for _, thing := range rightThings() {
		for _, mode := range allModes() {
			x := New()
			if thing.Range && mode < modeS {
				asksNot(t, x, 1, thing, mode, errArg)
				continue
			}
			asks(t, x, 1, thing, mode, true)
			stands(t, x, held(1, thing, mode))
			has(t, x, 1, thing, mode, true)
			has(t, x, 2, thing, mode, false)
			asks(t, x, 2, thing, modeX, false)
			stands(t, x, held(1, thing, mode), waited(2, thing, modeX))
		}
	}
	for _, thing := range wrongThings() {
		for _, mode := range allModes() {
			asksNot(t, New(), 1, thing, mode, errArg)
		}
	}
}

// P12.1, P12.3: arguments that may not be, of a transaction that has all, and of one that waits; nothing has changed then.
func TestWrong(t *testing.T) {
	x := tableOf(t, asking{1, table(1), modeX, true}, asking{1, keys(1, "", ""), modeX, true}, asking{2, table(1), modeS, false})
	for txn := range uint32(4) {
		for _, thing := range wrongThings() {
			for _, mode := range append(noModes(), allModes()...) {
				asksNot(t, x, txn, thing, mode, errArg)
				has(t, x, txn, thing, mode, false)
			}
		}
		for _, mode := range noModes() {
			for _, thing := range []api.Thing{table(1), table(2), keys(1, "", ""), keys(1, "a", "b"), keys(2, "a", "b")} {
				asksNot(t, x, txn, thing, mode, errArg)
				has(t, x, txn, thing, mode, false)
			}
		}
		for _, mode := range []int{modeIS, modeIX} {
			asksNot(t, x, txn, keys(1, "a", "b"), mode, errArg)
			has(t, x, txn, keys(1, "a", "b"), mode, false)
			asksNot(t, x, txn, keys(1, "", ""), mode, errArg)
			has(t, x, txn, keys(1, "", ""), mode, false)
		}
	}
	for _, mode := range allModes() {
		asksNot(t, x, 0, table(1), mode, errArg)
		asksNot(t, x, 0, table(9), mode, errArg)
		asksNot(t, x, 0, keys(9, "a", "b"), mode, errArg)
		has(t, x, 0, table(1), mode, false)
	}
	releases(t, x, 0)
	stands(t, x, held(1, table(1), modeX), held(1, keys(1, "", ""), modeX), waited(2, table(1), modeS))
}

// P12.1: a transaction that waits is told so, whatever it asks for: what it holds already, too.
func TestAskWaits(t *testing.T) {
	x := tableOf(t, asking{1, table(1), modeX, true}, asking{2, table(2), modeX, true}, asking{2, table(1), modeS, false})
	for _, thing := range []api.Thing{table(1), table(2), table(3), keys(1, "a", ""), keys(2, "a", "b")} {
		asksNot(t, x, 2, thing, modeX, errWait)
		asksNot(t, x, 2, thing, modeS, errWait)
	}
	asksNot(t, x, 2, table(2), modeIS, errWait)
	asks(t, x, 1, table(1), modeS, true)
	releases(t, x, 1, 2)
	asks(t, x, 2, table(1), modeS, true)
	asks(t, x, 2, table(3), modeS, true)
	stands(t, x, held(2, table(2), modeX), held(2, table(1), modeS), held(2, table(3), modeS))
}

// P12.1, P12.3: what a transaction has already is not asked for anew; what it has in part, or less of, is.
func TestAskHas(t *testing.T) {
	for _, a := range allModes() {
		for _, b := range allModes() {
			x := tableOf(t, asking{1, table(1), a, true})
			has(t, x, 1, table(1), b, said(having, a, b))
			has(t, x, 1, table(2), b, false)
			has(t, x, 2, table(1), b, false)
			asks(t, x, 1, table(1), b, true)
			if said(having, a, b) {
				stands(t, x, held(1, table(1), a))
				continue
			}
			stands(t, x, held(1, table(1), a), held(1, table(1), b))
			has(t, x, 1, table(1), b, true)
		}
	}
	x := tableOf(t, asking{1, table(1), modeS, true}, asking{1, table(1), modeIX, true})
	has(t, x, 1, table(1), modeX, false) // no lock of the two has it
	asks(t, x, 1, table(1), modeX, true)
	stands(t, x, held(1, table(1), modeS), held(1, table(1), modeIX), held(1, table(1), modeX))
}

// P12.3: which ranges lie in which; two that lie side by side are two.
func TestHasRanges(t *testing.T) {
	for _, c := range []struct {
		from, to string
		want     bool
	}{
		{"b", "d", true}, {"b", "c", true}, {"c", "d", true}, {"bb", "c", true}, {"b\x00", "d", true}, {"c", "c\x00", true},
		{"a", "d", false}, {"", "d", false}, {"b", "d\x00", false}, {"b", "e", false}, {"b", "", false}, {"c", "", false}, {"", "", false}, {"a", "b", false}, {"d", "e", false}, {"d", "", false}, {"a", "c", false}, {"c", "e", false}, {"aa", "cc", false}, {"", "a", false},
	} {
		x := tableOf(t, asking{1, keys(7, "b", "d"), modeX, true})
		for _, mode := range []int{modeS, modeX} {
			has(t, x, 1, keys(7, c.from, c.to), mode, c.want)
			has(t, x, 1, keys(8, c.from, c.to), mode, false)
			has(t, x, 2, keys(7, c.from, c.to), mode, false)
		}
		has(t, tableOf(t, asking{1, keys(7, "b", "d"), modeS, true}), 1, keys(7, c.from, c.to), modeX, false)
		has(t, tableOf(t, asking{1, keys(7, "b", ""), modeS, true}), 1, keys(7, c.from, c.to), modeS, c.from >= "b")
		has(t, tableOf(t, asking{1, keys(7, "", "d"), modeS, true}), 1, keys(7, c.from, c.to), modeS, c.to != "" && c.to <= "d")
		has(t, tableOf(t, asking{1, keys(7, "", ""), modeX, true}), 1, keys(7, c.from, c.to), modeS, true)
		has(t, tableOf(t, asking{1, table(7), modeX, true}), 1, keys(7, c.from, c.to), modeS, false)
	}
	x := tableOf(t, asking{1, keys(7, "a", "b"), modeS, true}, asking{1, keys(7, "b", "c"), modeS, true})
	has(t, x, 1, keys(7, "a", "c"), modeS, false)
	has(t, x, 1, table(7), modeIS, false)
	asks(t, x, 1, keys(7, "a", "c"), modeS, true)
	stands(t, x, held(1, keys(7, "a", "b"), modeS), held(1, keys(7, "b", "c"), modeS), held(1, keys(7, "a", "c"), modeS))
}

// P12.3: what is waited for is not held.
func TestHasWaited(t *testing.T) {
	x := tableOf(t, asking{1, table(1), modeS, true}, asking{2, table(1), modeX, false})
	for _, mode := range allModes() {
		has(t, x, 2, table(1), mode, false)
	}
	releases(t, x, 1, 2)
	for _, mode := range allModes() {
		has(t, x, 2, table(1), mode, true)
	}
}

// P12.1: which ranges meet; tables and ranges of one number do not.
func TestMeet(t *testing.T) {
	ends := []string{"", "a", "a\x00", "b", "c", "d"}
	var all []api.Thing
	for i, from := range ends {
		all = append(all, keys(1, from, ""))
		for _, to := range ends[i+1:] {
			all = append(all, keys(1, from, to))
		}
	}
	all = append(all, table(1), table(2), keys(2, "", ""), keys(2, "a", "b"))
	for _, a := range all {
		for _, b := range all {
			x := tableOf(t, asking{1, a, modeX, true})
			asks(t, x, 2, b, modeS, !meeting(a, b))
			has(t, tableOf(t, asking{1, a, modeX, true}), 1, b, modeS, inside(b, a))
		}
	}
}

// P12.1: who waits stands ahead of those that ask behind it, where the two conflict and meet; not where they do not.
func TestBehindWaiting(t *testing.T) {
	x := tableOf(t, asking{1, keys(1, "a", "c"), modeS, true}, asking{2, keys(1, "b", "e"), modeX, false})
	asks(t, x, 3, keys(1, "d", "f"), modeS, false) // it meets what 2 waits for alone
	asks(t, x, 4, keys(1, "e", "f"), modeS, true)
	asks(t, x, 5, keys(1, "a", "b"), modeS, true)
	asks(t, x, 6, keys(2, "a", "f"), modeX, true)
	waits(t, x, 0, [2]uint32{2, 1}, [2]uint32{3, 2})
	x = tableOf(t, asking{1, table(1), modeIX, true}, asking{2, table(1), modeS, false})
	asks(t, x, 3, table(1), modeIS, true) // IS does not conflict with what 2 waits for
	asks(t, x, 4, table(1), modeIX, false)
	asks(t, x, 5, table(1), modeS, false)
	waits(t, x, 0, [2]uint32{2, 1}, [2]uint32{4, 2}, [2]uint32{5, 1}, [2]uint32{5, 4})
	releases(t, x, 1, 2)
	waits(t, x, 0, [2]uint32{4, 2}, [2]uint32{5, 4})
}

// P12.1: who holds something that meets it passes those that wait; no one else does, and none passes those that hold.
func TestPasses(t *testing.T) {
	x := tableOf(t, asking{1, table(1), modeIS, true}, asking{2, table(1), modeIX, true}, asking{4, table(2), modeX, true}, asking{4, keys(1, "", ""), modeX, true}, asking{3, table(1), modeX, false})
	asks(t, x, 1, table(1), modeIX, true)
	asks(t, x, 1, table(1), modeS, false)
	asks(t, x, 4, table(1), modeIS, false)
	waits(t, x, 0, [2]uint32{1, 2}, [2]uint32{3, 1}, [2]uint32{3, 2}, [2]uint32{4, 3})
	releases(t, x, 2, 1)
	releases(t, x, 1, 3)
	releases(t, x, 3, 4)
}

// P12.1: a range that is held lets its transaction pass where it meets what is asked for, wherever else that lies.
func TestPassesRanges(t *testing.T) {
	for _, c := range []struct {
		from, to string
		want     bool
	}{{"b", "f", true}, {"c", "d", true}, {"cc", "", true}, {"c\x00", "e", true}, {"d", "e", false}, {"d", "", false}, {"e", "f", false}} {
		x := tableOf(t, asking{1, keys(1, "e", "g"), modeS, true}, asking{2, keys(1, "c", "d"), modeS, true}, asking{3, keys(1, "", ""), modeX, false})
		asks(t, x, 2, keys(1, c.from, c.to), modeS, c.want)
		want := [][2]uint32{{3, 1}, {3, 2}}
		if !c.want {
			want = append([][2]uint32{{2, 3}}, want...)
		}
		var victim uint32
		if !c.want {
			victim = 3
		}
		waits(t, x, victim, want...)
	}
}

// P12.2: all of a transaction's locks are gone, held or not; those that are waited for are gone through in the order of asking.
func TestRelease(t *testing.T) {
	x := tableOf(t, asking{1, table(1), modeX, true}, asking{1, table(2), modeX, true}, asking{1, keys(1, "", ""), modeX, true},
		asking{6, table(1), modeS, false}, asking{5, table(2), modeX, false}, asking{4, table(1), modeIX, false}, asking{3, keys(1, "b", ""), modeS, false}, asking{2, table(1), modeIS, false})
	releases(t, x, 7)
	releases(t, x, 1, 6, 5, 3, 2)
	stands(t, x, held(6, table(1), modeS), held(5, table(2), modeX), waited(4, table(1), modeIX), held(3, keys(1, "b", ""), modeS), held(2, table(1), modeIS))
	releases(t, x, 1)
	releases(t, x, 5)
	releases(t, x, 6, 4)
	asks(t, x, 5, table(1), modeX, false)
	asks(t, x, 6, table(1), modeIS, false)
	releases(t, x, 5, 6) // what is waited for is gone, too
	stands(t, x, held(4, table(1), modeIX), held(3, keys(1, "b", ""), modeS), held(2, table(1), modeIS), held(6, table(1), modeIS))
	for _, txn := range []uint32{2, 3, 4, 6} {
		releases(t, x, txn)
	}
	stands(t, x)
}

// P12.2: what is held on the way stands in the way of those behind it.
func TestReleaseInOrder(t *testing.T) {
	x := tableOf(t, asking{1, table(1), modeX, true}, asking{2, table(1), modeX, false}, asking{3, table(1), modeIS, false}, asking{4, table(1), modeX, false})
	releases(t, x, 1, 2)
	releases(t, x, 2, 3)
	releases(t, x, 4)
	releases(t, x, 3)
	x = tableOf(t, asking{1, table(1), modeIX, true}, asking{2, table(1), modeIS, true}, asking{3, table(1), modeIS, true}, asking{4, table(1), modeX, false}, asking{2, table(1), modeS, false}, asking{3, table(1), modeS, false})
	releases(t, x, 1, 2, 3) // both pass what 4 waits for
	stands(t, x, held(2, table(1), modeIS), held(3, table(1), modeIS), waited(4, table(1), modeX), held(2, table(1), modeS), held(3, table(1), modeS))
	x = tableOf(t, asking{1, table(1), modeIS, true}, asking{2, table(1), modeIS, true}, asking{3, table(1), modeS, true}, asking{1, table(1), modeIX, false}, asking{2, table(1), modeX, false})
	releases(t, x, 3, 1)
	waits(t, x, 0, [2]uint32{2, 1})
}

// P12.3: locks stand in the order of asking, and keep their places.
func TestAll(t *testing.T) {
	x := tableOf(t, asking{9, table(1), modeS, true}, asking{3, table(2), modeX, true}, asking{5, keys(1, "a", "b"), modeX, true}, asking{9, keys(1, "a", ""), modeS, false}, asking{3, table(1), modeX, false}, asking{1, table(0), modeIS, true}, asking{math.MaxUint32, table(2), modeIS, false})
	stands(t, x, held(9, table(1), modeS), held(3, table(2), modeX), held(5, keys(1, "a", "b"), modeX), waited(9, keys(1, "a", ""), modeS), waited(3, table(1), modeX), held(1, table(0), modeIS), waited(math.MaxUint32, table(2), modeIS))
	waits(t, x, 0, [2]uint32{3, 9}, [2]uint32{9, 5}, [2]uint32{math.MaxUint32, 3})
	releases(t, x, 5, 9)
	stands(t, x, held(9, table(1), modeS), held(3, table(2), modeX), held(9, keys(1, "a", ""), modeS), waited(3, table(1), modeX), held(1, table(0), modeIS), waited(math.MaxUint32, table(2), modeIS))
	releases(t, x, 9, 3)
	releases(t, x, 3, math.MaxUint32)
	stands(t, x, held(1, table(0), modeIS), held(math.MaxUint32, table(2), modeIS))
}

// P12.4: each pair stands once, however many locks are waited for; numbers are compared as such.
func TestWaits(t *testing.T) {
	x := tableOf(t, asking{10, keys(1, "a", "b"), modeX, true}, asking{9, keys(1, "b", "c"), modeS, true}, asking{10, keys(1, "c", "d"), modeX, true}, asking{1 << 31, keys(1, "d", "e"), modeX, true}, asking{9, keys(1, "e", "f"), modeS, true}, asking{100, keys(1, "f", ""), modeX, true},
		asking{256, keys(1, "", ""), modeS, false}, asking{2, keys(1, "", ""), modeX, false}, asking{math.MaxUint32, keys(1, "a", "c"), modeS, false}, asking{3, keys(1, "b", "c"), modeX, false})
	waits(t, x, 0, [2]uint32{2, 9}, [2]uint32{2, 10}, [2]uint32{2, 100}, [2]uint32{2, 256}, [2]uint32{2, 1 << 31},
		[2]uint32{3, 2}, [2]uint32{3, 9}, [2]uint32{3, 256}, [2]uint32{3, math.MaxUint32},
		[2]uint32{256, 10}, [2]uint32{256, 100}, [2]uint32{256, 1 << 31}, [2]uint32{math.MaxUint32, 2}, [2]uint32{math.MaxUint32, 10})
}

// P12.5: a nil table has no locks, and takes none.
func TestNil(t *testing.T) {
	var x *Table
	for range 2 {
		for _, mode := range append(noModes(), allModes()...) {
			for _, thing := range append(rightThings(), wrongThings()...) {
				asksNot(t, x, 0, thing, mode, errArg)
				asksNot(t, x, 1, thing, mode, errArg)
				has(t, x, 1, thing, mode, false)
			}
		}
		releases(t, x, 0)
		releases(t, x, 1)
		stands(t, x)
		waits(t, x, 0)
	}
}

// P12.5: one that New did not make is like one that New made.
func TestZero(t *testing.T) {
	for seed := range uint64(50) {
		pick := picker(seed)
		var zero struct{ Table }
		x, y := new(Table), &Table{}
		other := New()
		stands(t, &zero.Table)
		waits(t, x, 0)
		releases(t, y, 1)
		has(t, new(Table), 1, table(1), modeS, false)
		for range 200 {
			c := someCall(pick, 6, 8)
			want := c.do(other)
			for i, z := range []*Table{x, y, &zero.Table} {
				if got := c.do(z); got != want {
					t.Fatalf("%v of table %d: %s, want %s", c, i, got, want)
				}
				stands(t, z, other.All()...)
				waits(t, z, other.Victim(), other.Waits()...)
			}
		}
	}
}

// P1: what a table answers hangs on its own calls alone: two side by side do not meet.
func TestTwoTables(t *testing.T) {
	r := newRelations()
	pick := picker(77)
	var tables [2]*Table
	var mirrors [2]*mirror
	var scripts [2][]call
	for i := range tables {
		tables[i], mirrors[i] = New(), &mirror{}
	}
	for range 1000 {
		i := pick(2)
		scripts[i] = append(scripts[i], someCall(pick, 5, 8))
		mirrors[i].follows(t, r, scripts[i], tables[i])
		for k := range tables {
			mirrors[k].agrees(t, r, scripts[k], tables[k])
		}
	}
}
