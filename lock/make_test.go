package lock

import (
	"fmt"
	"slices"
	"testing"

	"cadastre/api"
)

// The numbers that the chapter names, written out, so that nothing of the program is in what the tests want.
const (
	modeIS    = 1
	modeIX    = 2
	modeS     = 3
	modeX     = 4
	mostLocks = 16384
	mostBound = 148
	errArg    = api.Errno(1)
	errFull   = api.Errno(4)
	errWait   = api.Errno(121)
)

// picker answers numbers below n that hang on a seed.
func picker(seed uint64) func(n int) int {
	x := seed*0x9E3779B97F4A7C15 + 88172645463325252
	return func(n int) int {
		x ^= x << 13
		x ^= x >> 7
		x ^= x << 17
		return int(x>>20) % n
	}
}

// table is a table as a thing.
func table(id uint32) api.Thing { return api.Thing{Id: id} }

// keys are a range's keys from one on, up to another one.
func keys(id uint32, from, to string) api.Thing {
	return api.Thing{Range: true, Id: id, From: from, To: to}
}

// held is a lock that is held.
func held(txn uint32, thing api.Thing, mode int) api.Lock {
	return api.Lock{Txn: txn, Thing: thing, Mode: mode, Held: true}
}

// waited is a lock that is waited for.
func waited(txn uint32, thing api.Thing, mode int) api.Lock {
	return api.Lock{Txn: txn, Thing: thing, Mode: mode}
}

// asks asks what Ask answers.
func asks(t *testing.T, x *Table, txn uint32, thing api.Thing, mode int, want bool) {
	t.Helper()
	if got, e := x.Ask(txn, thing, mode); got != want || e != api.OK {
		t.Fatalf("Ask(%d, %+v, %d): %v, %d, want %v", txn, thing, mode, got, int(e), want)
	}
}

// asksNot asks that Ask answers an error, and nothing beside it, and that nothing has changed then.
func asksNot(t *testing.T, x *Table, txn uint32, thing api.Thing, mode int, want api.Errno) {
	t.Helper()
	before := x.All()
	if got, e := x.Ask(txn, thing, mode); got || e != want {
		t.Fatalf("Ask(%d, %+v, %d): %v, %d, want %d", txn, thing, mode, got, int(e), int(want))
	}
	if after := x.All(); !slices.Equal(before, after) {
		t.Fatalf("Ask(%d, %+v, %d): %+v, was %+v", txn, thing, mode, after, before)
	}
}

// releases asks what Release answers.
func releases(t *testing.T, x *Table, txn uint32, want ...uint32) {
	t.Helper()
	if got := x.Release(txn); !slices.Equal(got, want) {
		t.Fatalf("Release(%d): %v, want %v", txn, got, want)
	}
}

// has asks what Has tells.
func has(t *testing.T, x *Table, txn uint32, thing api.Thing, mode int, want bool) {
	t.Helper()
	if got := x.Has(txn, thing, mode); got != want {
		t.Fatalf("Has(%d, %+v, %d): %v, want %v", txn, thing, mode, got, want)
	}
}

// stands asks which locks there are.
func stands(t *testing.T, x *Table, want ...api.Lock) {
	t.Helper()
	if got := x.All(); !slices.Equal(got, want) {
		t.Fatalf("All: %+v, want %+v", got, want)
	}
}

// waits asks who waits for whom, and who is to end a ring.
func waits(t *testing.T, x *Table, victim uint32, want ...[2]uint32) {
	t.Helper()
	if got := x.Waits(); !slices.Equal(got, want) {
		t.Fatalf("Waits: %v, want %v", got, want)
	}
	if got := x.Victim(); got != victim {
		t.Fatalf("Victim: %d, want %d", got, victim)
	}
}

// asking is an Ask that answers true or false.
type asking struct {
	txn   uint32
	thing api.Thing
	mode  int
	want  bool
}

// tableOf is a table of locks that were asked for so.
func tableOf(t *testing.T, all ...asking) *Table {
	t.Helper()
	x := New()
	for _, a := range all {
		asks(t, x, a.txn, a.thing, a.mode, a.want)
	}
	return x
}

// call is an Ask, or a Release (mode 0).
type call struct {
	txn   uint32
	thing api.Thing
	mode  int
}

func (c call) String() string {
	if c.mode == 0 {
		return fmt.Sprintf("Release(%d)", c.txn)
	}
	if !c.thing.Range {
		return fmt.Sprintf("Ask(%d, table %d, %d)", c.txn, c.thing.Id, c.mode)
	}
	return fmt.Sprintf("Ask(%d, %q to %q of %d, %d)", c.txn, c.thing.From, c.thing.To, c.thing.Id, c.mode)
}

// do does a call; what it answers.
func (c call) do(x *Table) string {
	if c.mode == 0 {
		return fmt.Sprint(x.Release(c.txn))
	}
	got, e := x.Ask(c.txn, c.thing, c.mode)
	return fmt.Sprint(got, int(e))
}
