package lock

import (
	"fmt"
	"slices"
	"testing"
)

// P12.4: rings of two, by what they hold already, and by what others hold.
func TestRingOfTwo(t *testing.T) {
	x := tableOf(t, asking{7, table(1), modeS, true}, asking{8, table(1), modeS, true}, asking{8, table(1), modeX, false})
	waits(t, x, 0, [2]uint32{8, 7})
	asks(t, x, 7, table(1), modeX, false)
	waits(t, x, 8, [2]uint32{7, 8}, [2]uint32{8, 7})
	releases(t, x, 8, 7)
	waits(t, x, 0)
	x = tableOf(t, asking{2, table(1), modeX, true}, asking{1, keys(1, "a", "b"), modeX, true}, asking{2, keys(1, "", ""), modeS, false}, asking{1, table(1), modeIS, false})
	waits(t, x, 2, [2]uint32{1, 2}, [2]uint32{2, 1})
	releases(t, x, 1, 2)
	waits(t, x, 0)
}

// P12.4: a ring over what stands ahead of all other locks.
func TestFirstWaits(t *testing.T) {
	x := tableOf(t, asking{3, keys(1, "a", "b"), modeS, true}, asking{2, keys(1, "a", "c"), modeX, false}, asking{1, keys(1, "c", "d"), modeX, true}, asking{1, keys(1, "b", "d"), modeX, true})
	releases(t, x, 3)
	asks(t, x, 1, keys(1, "a", "b"), modeS, false)
	stands(t, x, waited(2, keys(1, "a", "c"), modeX), held(1, keys(1, "c", "d"), modeX), held(1, keys(1, "b", "d"), modeX), waited(1, keys(1, "a", "b"), modeS))
	waits(t, x, 2, [2]uint32{1, 2}, [2]uint32{2, 1})
	releases(t, x, 2, 1)
}

// drawn is a table in which the transactions wait for one another by these pairs, all of which ask in this order.
func drawn(t *testing.T, pairs [][2]uint32, order []uint32) *Table {
	t.Helper()
	x := New()
	for _, txn := range order {
		asks(t, x, txn, table(0), modeIS, true)
		for _, p := range pairs {
			if p[1] == txn {
				asks(t, x, txn, table(p[0]), modeS, true)
			}
		}
	}
	for _, txn := range order {
		if slices.ContainsFunc(pairs, func(p [2]uint32) bool { return p[0] == txn }) {
			asks(t, x, txn, table(txn), modeX, false)
		}
	}
	return x
}

// drawnRight asks for the victim of such a table.
func drawnRight(t *testing.T, pairs [][2]uint32, order []uint32) uint32 {
	t.Helper()
	var victim uint32
	if in := ringed(pairs); len(in) > 0 {
		victim = slices.Max(in)
	}
	slices.SortFunc(pairs, func(a, b [2]uint32) int { return slices.Compare(a[:], b[:]) })
	waits(t, drawn(t, pairs, order), victim, pairs...)
	return victim
}

// P12.4: all that four transactions may wait for one another, asked in several orders.
func TestFour(t *testing.T) {
	victims := map[uint32]int{}
	for bits := range 1 << 12 {
		var pairs [][2]uint32
		for i := range 12 {
			from, to := i/3, i%3
			if to >= from {
				to++
			}
			if bits>>i&1 == 1 {
				pairs = append(pairs, [2]uint32{uint32(from + 1), uint32(to + 1)})
			}
		}
		for _, order := range [][]uint32{{1, 2, 3, 4}, {4, 3, 2, 1}, {2, 4, 1, 3}, {3, 1, 4, 2}} {
			victims[drawnRight(t, pairs, order)]++
		}
	}
	for _, victim := range []uint32{0, 2, 3, 4} {
		if victims[victim] < 40 {
			t.Errorf("%d of the victims are %d: not a test", victims[victim], victim)
		}
	}
}

// P12.4: more of them, with some pairs, and with numbers that hang on a seed.
func TestDrawn(t *testing.T) {
	rings, none := 0, 0
	for seed := range uint64(3000) {
		pick := picker(seed)
		var order []uint32
		for i := range 3 + pick(12) {
			order = append(order, uint32(pick(1<<10)<<20+i+1))
		}
		var pairs [][2]uint32
		for range pick(2 * len(order)) {
			a, b := order[pick(len(order))], order[pick(len(order))]
			if a != b && !slices.Contains(pairs, [2]uint32{a, b}) {
				pairs = append(pairs, [2]uint32{a, b})
			}
		}
		if drawnRight(t, pairs, order) == 0 {
			none++
		} else {
			rings++
		}
	}
	if rings < 500 || none < 500 {
		t.Errorf("%d with rings, %d without: not a test", rings, none)
	}
}

// crowd is a table that many transactions have asked, none of which gave anything back; it hangs on a seed.
func crowd(seed uint64) *Table {
	pick := picker(seed)
	x := New()
	txns := 2 + pick(30)
	for range 10 + pick(200) {
		c := someCall(pick, txns, 1<<30)
		x.Ask(c.txn, c.thing, c.mode)
	}
	return x
}

// txnsOf are the transactions that have a lock, held or not, rising.
func txnsOf(x *Table) []uint32 {
	var all []uint32
	for _, l := range x.All() {
		all = append(all, l.Txn)
	}
	slices.Sort(all)
	return slices.Compact(all)
}

// waitingOf are the transactions that wait, rising: of the locks, and of the pairs.
func waitingOf(t *testing.T, x *Table) []uint32 {
	t.Helper()
	var all, first []uint32
	for _, l := range x.All() {
		if !l.Held {
			all = append(all, l.Txn)
		}
	}
	slices.Sort(all)
	for _, p := range x.Waits() {
		first = append(first, p[0])
	}
	if first = slices.Compact(first); !slices.Equal(all, first) {
		t.Fatalf("%v wait, and %v wait for others", all, first)
	}
	return all
}

// apart asks what P12.6 promises.
func apart(t *testing.T, r *relations, x *Table) {
	t.Helper()
	all := x.All()
	for i, a := range all {
		for _, b := range all[:i] {
			if a.Held && b.Held && a.Txn != b.Txn && said(conflicting, a.Mode, b.Mode) && known(r.meet, meeting, a.Thing, b.Thing) {
				t.Fatalf("%+v and %+v are held", a, b)
			}
		}
	}
}

// P12.6: what different transactions hold does not conflict where it meets, whatever was done.
func TestApart(t *testing.T) {
	r := newRelations()
	for seed := range uint64(200) {
		pick := picker(seed + 500)
		x := New()
		for range 100 {
			someCall(pick, 8, 10).do(x)
			apart(t, r, x)
			waitingOf(t, x)
		}
	}
}

// endsWell asks what P12.7 promises, of a table without a ring.
func endsWell(t *testing.T, r *relations, x *Table) int {
	t.Helper()
	waiting := waitingOf(t, x)
	many := len(waiting)
	for left := txnsOf(x); len(left) > 0; left = txnsOf(x) {
		free := slices.DeleteFunc(left, func(txn uint32) bool { return slices.Contains(waitingOf(t, x), txn) })
		if len(free) == 0 {
			t.Fatalf("all wait, and Victim is %d: %v", x.Victim(), x.Waits())
		}
		for _, txn := range free {
			got := x.Release(txn)
			waiting = slices.DeleteFunc(waiting, func(txn uint32) bool { return slices.Contains(got, txn) })
		}
		apart(t, r, x)
		if got := x.Victim(); got != 0 {
			t.Fatalf("Victim %d, and there was no ring", got)
		}
	}
	if len(waiting) > 0 {
		t.Fatalf("%v never held what they waited for", waiting)
	}
	return many
}

// P12.7, P12.8: rings are ended one by one, each by one that is in it; then all get in the end what they wait for.
func TestInTheEnd(t *testing.T) {
	for part := range uint64(8) {
		t.Run(fmt.Sprint(part), func(t *testing.T) {
			t.Parallel()
			r := newRelations()
			ended, waited := 0, 0
			for seed := range uint64(250) {
				x := crowd(part*1000 + seed)
				txns := len(txnsOf(x))
				count := 0
				for victim := x.Victim(); victim != 0; victim = x.Victim() {
					count++
					in := ringed(x.Waits())
					if len(in) < 2 || slices.Max(in) != victim {
						t.Fatalf("Victim %d, and in rings are %v", victim, in)
					}
					x.Release(victim)
					apart(t, r, x)
				}
				if count >= txns {
					t.Fatalf("%d were to end rings of %d", count, txns)
				}
				if len(ringed(x.Waits())) > 0 {
					t.Fatalf("Victim 0, and in rings are %v", ringed(x.Waits()))
				}
				ended += count
				waited += endsWell(t, r, x)
			}
			if ended < 300 || waited < 1000 {
				t.Errorf("%d rings were ended, %d waited for others: not a test", ended, waited)
			}
		})
	}
}

// P12.4, P12.8: as many locks as there may be: each transaction holds one, and waits for the next one's; in a ring, then in a row.
func TestLadder(t *testing.T) {
	t.Parallel()
	const last = uint32(mostLocks / 2)
	x := New()
	var want [][2]uint32
	for txn := uint32(1); txn <= last; txn++ {
		asks(t, x, txn, table(txn), modeX, true)
		want = append(want, [2]uint32{txn, txn%last + 1})
	}
	for _, p := range want {
		asks(t, x, p[0], table(p[1]), modeX, false)
	}
	waits(t, x, last, want...)
	releases(t, x, last, last-1)
	waits(t, x, 0, want[:last-2]...)
}
