package lock

import (
	"fmt"
	"slices"
	"strings"
	"testing"

	"cadastre/api"
)

// mirror is a table of locks, by the chapter's words alone.
type mirror struct{ locks []api.Lock }

// conflicting says which modes conflict: a line and a column for each of IS, IX, S, X.
const conflicting = "...c ..cc .c.c cccc"

// having says which modes a mode has: a line for each, and in it a column for each that it has.
const having = "h... hh.. h.h. hhhh"

// said tells what stands for two modes in one of these.
func said(of string, a, b int) bool { return strings.Fields(of)[a-1][b-1] != '.' }

// someKeys are all ends of the ranges that the tests use, some keys between them, and one that is above all.
func someKeys() []string {
	return []string{"", "\x00", "a", "a\x00", "b", "b\x00", "bb", "c", "c\x00", "d", "e", "f", "\xff\xff\xff"}
}

// keysOf tells which of these keys a range has.
func keysOf(thing api.Thing) map[string]bool {
	all := map[string]bool{}
	for _, k := range someKeys() {
		if k >= thing.From && (k < thing.To || thing.To == "") {
			all[k] = true
		}
	}
	return all
}

// same tells whether two things are both tables, or both ranges, of one number.
func same(a, b api.Thing) bool { return a.Range == b.Range && a.Id == b.Id }

// meeting tells whether two things meet: a key that both have, if they are ranges.
func meeting(a, b api.Thing) bool {
	if !same(a, b) || !a.Range {
		return same(a, b)
	}
	others := keysOf(b)
	for k := range keysOf(a) {
		if others[k] {
			return true
		}
	}
	return false
}

// inside tells whether a thing lies in another one: all its keys are the other one's, if they are ranges.
func inside(a, b api.Thing) bool {
	if !same(a, b) || !a.Range {
		return same(a, b)
	}
	others := keysOf(b)
	for k := range keysOf(a) {
		if !others[k] {
			return false
		}
	}
	return true
}

// things is what is known of two things.
type things struct{ a, b api.Thing }

// relations keeps what was worked out of things once.
type relations struct{ meet, inside map[things]bool }

func newRelations() *relations {
	return &relations{map[things]bool{}, map[things]bool{}}
}

func known(kept map[things]bool, tell func(a, b api.Thing) bool, a, b api.Thing) bool {
	is, there := kept[things{a, b}]
	if !there {
		is = tell(a, b)
		kept[things{a, b}] = is
	}
	return is
}

// forWhich tells the places of the locks for which the one at a place waits, if it is waited for.
func (m *mirror) forWhich(r *relations, place int) []int {
	mine := m.locks[place]
	own := false
	for _, l := range m.locks {
		own = own || l.Held && l.Txn == mine.Txn && known(r.meet, meeting, l.Thing, mine.Thing)
	}
	var all []int
	for i, l := range m.locks {
		if l.Txn == mine.Txn || !said(conflicting, l.Mode, mine.Mode) || !known(r.meet, meeting, l.Thing, mine.Thing) {
			continue
		}
		if l.Held || !own && i < place {
			all = append(all, i)
		}
	}
	return all
}

// waiting tells the place of the lock that a transaction waits for.
func (m *mirror) waiting(txn uint32) int {
	return slices.IndexFunc(m.locks, func(l api.Lock) bool { return l.Txn == txn && !l.Held })
}

func (m *mirror) has(r *relations, txn uint32, thing api.Thing, mode int) bool {
	for _, l := range m.locks {
		if l.Txn == txn && l.Held && known(r.inside, inside, thing, l.Thing) && said(having, l.Mode, mode) {
			return true
		}
	}
	return false
}

// do does a call whose arguments may be; what it answers.
func (m *mirror) do(r *relations, c call) string {
	if c.mode == 0 {
		return fmt.Sprint(m.release(r, c.txn))
	}
	if m.waiting(c.txn) >= 0 {
		return "false 121"
	}
	if m.has(r, c.txn, c.thing, c.mode) {
		return "true 0"
	}
	m.locks = append(m.locks, api.Lock{Txn: c.txn, Thing: c.thing, Mode: c.mode})
	last := len(m.locks) - 1
	m.locks[last].Held = len(m.forWhich(r, last)) == 0
	return fmt.Sprint(m.locks[last].Held, 0)
}

func (m *mirror) release(r *relations, txn uint32) []uint32 {
	var left []api.Lock
	for _, l := range m.locks {
		if l.Txn != txn {
			left = append(left, l)
		}
	}
	m.locks = left
	var got []uint32
	for i := range m.locks {
		if !m.locks[i].Held && len(m.forWhich(r, i)) == 0 {
			m.locks[i].Held = true
			got = append(got, m.locks[i].Txn)
		}
	}
	return got
}

// pairs tells who waits for whom.
func (m *mirror) pairs(r *relations) [][2]uint32 {
	var all [][2]uint32
	for i, l := range m.locks {
		if l.Held {
			continue
		}
		for _, other := range m.forWhich(r, i) {
			all = append(all, [2]uint32{l.Txn, m.locks[other].Txn})
		}
	}
	slices.SortFunc(all, func(a, b [2]uint32) int { return slices.Compare(a[:], b[:]) })
	return slices.Compact(all)
}

// ringed tells the transactions that wait for themselves, over pairs, rising: all that each waits for, over however many, worked out by making pairs of pairs until there are no more.
func ringed(pairs [][2]uint32) []uint32 {
	over := map[[2]uint32]bool{}
	for _, p := range pairs {
		over[p] = true
	}
	for grew := true; grew; {
		grew = false
		var more [][2]uint32
		for a := range over {
			for _, b := range pairs {
				if a[1] == b[0] && !over[[2]uint32{a[0], b[1]}] {
					more = append(more, [2]uint32{a[0], b[1]})
				}
			}
		}
		for _, p := range more {
			over[p], grew = true, true
		}
	}
	var all []uint32
	for p := range over {
		if p[0] == p[1] {
			all = append(all, p[0])
		}
	}
	slices.Sort(all)
	return all
}

// victim tells who is to end a ring.
func (m *mirror) victim(r *relations) uint32 {
	all := ringed(m.pairs(r))
	if len(all) == 0 {
		return 0
	}
	return slices.Max(all)
}

// agrees asks that all that a table tells is the mirror's.
func (m *mirror) agrees(t *testing.T, r *relations, script []call, x *Table) {
	t.Helper()
	if got := x.All(); !slices.Equal(got, m.locks) {
		t.Fatalf("%v: All %+v, want %+v", script, got, m.locks)
	}
	if got, want := x.Waits(), m.pairs(r); !slices.Equal(got, want) {
		t.Fatalf("%v: Waits %v, want %v", script, got, want)
	}
	if got, want := x.Victim(), m.victim(r); got != want {
		t.Fatalf("%v: Victim %d, want %d", script, got, want)
	}
}

// hasAlike asks that Has answers as the mirror, for all things that are handed in.
func (m *mirror) hasAlike(t *testing.T, r *relations, script []call, x *Table, calls []call) {
	t.Helper()
	for _, c := range calls {
		if c.mode == 0 {
			continue
		}
		if got, want := x.Has(c.txn, c.thing, c.mode), m.has(r, c.txn, c.thing, c.mode); got != want {
			t.Fatalf("%v: Has of %v: %v, want %v", script, c, got, want)
		}
	}
}

// follows does the last call of a script on both sides, and asks that they agree; what it answers.
func (m *mirror) follows(t *testing.T, r *relations, script []call, x *Table) string {
	t.Helper()
	c := script[len(script)-1]
	got, want := c.do(x), m.do(r, c)
	if got != want {
		t.Fatalf("%v: %s, want %s", script, got, want)
	}
	return got
}

// plays asks that each call of a script answers as the mirror's; behind the last one all that the table tells is asked for.
func plays(t *testing.T, r *relations, script, calls []call) {
	t.Helper()
	x, m := New(), &mirror{}
	for i := range script {
		m.follows(t, r, script[:i+1], x)
	}
	m.agrees(t, r, script, x)
	m.hasAlike(t, r, script, x, calls)
}

// callsOf are all calls by these transactions on these things.
func callsOf(txns uint32, modes []int, things ...api.Thing) []call {
	var all []call
	for txn := uint32(1); txn <= txns; txn++ {
		for _, thing := range things {
			for _, mode := range modes {
				if !thing.Range || mode >= modeS {
					all = append(all, call{txn, thing, mode})
				}
			}
		}
		all = append(all, call{txn: txn})
	}
	return all
}

// P12.1 to P12.4: all scripts of some calls.
func TestScripts(t *testing.T) {
	modes := []int{modeIS, modeIX, modeS, modeX}
	for i, g := range []struct {
		calls []call
		long  int
	}{
		{callsOf(3, modes, table(1)), 5},
		{callsOf(4, modes[2:], table(1)), 5},
		{callsOf(3, modes, keys(1, "a", "c"), keys(1, "b", "d"), keys(1, "c", "")), 4},
		{callsOf(3, modes, keys(1, "", "b"), keys(1, "a", "b"), keys(1, "", "")), 4},
		{callsOf(2, modes[2:], table(1), table(2), keys(1, "a", "c"), keys(1, "b", "c"), keys(2, "a", "c")), 4},
		{callsOf(3, modes[3:], table(1), table(2), table(3)), 5},
	} {
		for _, first := range g.calls {
			t.Run(fmt.Sprint(i, first), func(t *testing.T) {
				t.Parallel()
				r := newRelations()
				var ask func(script []call)
				ask = func(script []call) {
					plays(t, r, script, g.calls)
					if len(script) == g.long {
						return
					}
					for _, c := range g.calls {
						ask(append(slices.Clip(script), c))
					}
				}
				ask([]call{first})
			})
		}
	}
}

// someThing is a thing that hangs on a picker: one of some tables, or keys of some ranges.
func someThing(pick func(n int) int) api.Thing {
	id := uint32(pick(2))
	if pick(3) == 0 {
		return table(id)
	}
	ends := []string{"", "a", "a\x00", "b", "bb", "c", "d", "e", "f"}
	from := pick(len(ends))
	if to := from + 1 + pick(len(ends)); to < len(ends) {
		return keys(id, ends[from], ends[to])
	}
	return keys(id, ends[from], "")
}

// someCall is a call that hangs on a picker; one in so many is a Release.
func someCall(pick func(n int) int, txns, releases int) call {
	c := call{txn: uint32(1 + pick(txns)), thing: someThing(pick), mode: modeS + pick(2)}
	if !c.thing.Range {
		c.mode = 1 + pick(4)
	}
	if pick(releases) == 0 {
		return call{txn: c.txn}
	}
	return c
}

// P12.1 to P12.4: long scripts.
func TestLongScripts(t *testing.T) {
	for part := range uint64(8) {
		t.Run(fmt.Sprint(part), func(t *testing.T) {
			t.Parallel()
			r := newRelations()
			rings, grants := 0, 0
			for seed := range uint64(150) {
				pick := picker(part*1000 + seed)
				txns, few := 2+pick(12), 3+pick(20)
				x, m := New(), &mirror{}
				var script []call
				for range 150 {
					c := someCall(pick, txns, few)
					if m.victim(r) != 0 && pick(3) == 0 {
						rings++
						c = call{txn: m.victim(r)}
					}
					script = append(script, c)
					if m.follows(t, r, script, x) != "[]" && c.mode == 0 {
						grants++
					}
					m.agrees(t, r, script, x)
					m.hasAlike(t, r, script, x, []call{someCall(pick, txns, 1<<30), someCall(pick, txns, 1<<30)})
				}
			}
			if rings < 500 || grants < 500 {
				t.Errorf("%d rings, %d Releases behind which one got what it waited for: not a test", rings, grants)
			}
		})
	}
}
