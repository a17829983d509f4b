package lock

import (
	"slices"
	"testing"

	"cadastre/api"
)

// filled is a table with as many locks as there may be, by these transactions in turns.
func filled(t *testing.T, txns uint32) *Table {
	t.Helper()
	x := New()
	for i := range uint32(mostLocks) {
		asks(t, x, 1+i%txns, table(i), modeS, true)
	}
	return x
}

// P12.1: how many locks there may be; what is had already is had yet, and who waits is told so.
func TestFull(t *testing.T) {
	t.Parallel()
	for _, txns := range []uint32{1, mostLocks} {
		x := filled(t, txns)
		if got := len(x.All()); got != mostLocks {
			t.Fatalf("%d locks", got)
		}
		asksNot(t, x, 1, table(mostLocks), modeS, errFull)
		asksNot(t, x, 1, table(0), modeX, errFull)
		asksNot(t, x, mostLocks+1, table(0), modeS, errFull)
		asksNot(t, x, mostLocks+1, keys(0, "", ""), modeX, errFull)
		asksNot(t, x, 0, table(mostLocks), modeS, errArg)
		asksNot(t, x, 1, table(mostLocks), 5, errArg)
		asksNot(t, x, 1, keys(1, "b", "a"), modeS, errArg)
		asks(t, x, 1, table(0), modeS, true)
		asks(t, x, 1, table(0), modeIS, true)
		has(t, x, 1, table(mostLocks), modeS, false)
		if got := len(x.All()); got != mostLocks || len(x.Waits()) != 0 || x.Victim() != 0 {
			t.Fatalf("%d locks, Waits %v, Victim %d", got, x.Waits(), x.Victim())
		}
		releases(t, x, txns)
		asks(t, x, mostLocks+1, table(0), modeIS, true)
		has(t, x, txns, table(txns-1), modeIS, false)
	}
}

// P12.1: locks that are waited for count, too.
func TestFullOfWaiting(t *testing.T) {
	t.Parallel()
	x := filled(t, 1)
	releases(t, x, 1)
	for txn := uint32(1); txn <= mostLocks; txn++ {
		asks(t, x, txn, table(9), modeX, txn == 1)
	}
	asksNot(t, x, mostLocks+1, table(9), modeX, errFull)
	asksNot(t, x, mostLocks+1, table(8), modeIS, errFull)
	asksNot(t, x, 2, table(8), modeIS, errWait)
	asksNot(t, x, mostLocks, table(9), modeX, errWait)
	asks(t, x, 1, table(9), modeIX, true)
	if got := x.Victim(); got != 0 {
		t.Fatalf("Victim: %d", got)
	}
	releases(t, x, mostLocks)
	asks(t, x, mostLocks+1, table(8), modeIS, true)
	asksNot(t, x, mostLocks, table(8), modeIS, errFull)
	releases(t, x, 1, 2)
	releases(t, x, 2, 3)
	asks(t, x, 1, table(8), modeX, false)
	if got := len(x.All()); got != mostLocks-1 {
		t.Fatalf("%d locks", got)
	}
}

// P12.2, P12.4: many that wait for one; all of them get it at once.
func TestManyForOne(t *testing.T) {
	t.Parallel()
	x := New()
	const last = 4000
	asks(t, x, last, table(1), modeX, true)
	var want []uint32
	for txn := uint32(last - 1); txn > 0; txn-- {
		asks(t, x, txn, table(1), modeS, false)
		want = append(want, txn)
	}
	pairs := x.Waits()
	for i, p := range pairs {
		if p != [2]uint32{uint32(i + 1), last} {
			t.Fatalf("pair %d: %v", i, p)
		}
	}
	if len(pairs) != last-1 || x.Victim() != 0 {
		t.Fatalf("%d pairs, Victim %d", len(pairs), x.Victim())
	}
	releases(t, x, last, want...)
	if slices.ContainsFunc(x.All(), func(l api.Lock) bool { return !l.Held }) {
		t.Fatal("one still waits")
	}
}
