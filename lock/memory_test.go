package lock

import (
	"slices"
	"testing"
	"unsafe"

	"cadastre/api"
)

// lent is a text in memory that is changed behind its back.
type lent struct{ b []byte }

func lend(text string) lent { return lent{[]byte(text)} }

func (l lent) text() string { return unsafe.String(unsafe.SliceData(l.b), len(l.b)) }

func (l lent) spoil() {
	for i := range l.b {
		l.b[i] ^= 0x15
	}
}

// P12.5: what is handed in is not kept, not even a text's memory.
func TestAskMemory(t *testing.T) {
	x := New()
	from, to := lend("bcd"), lend("def")
	asks(t, x, 1, keys(7, from.text(), to.text()), modeX, true)
	asks(t, x, 2, keys(7, from.text(), ""), modeS, false)
	asks(t, x, 3, keys(8, "", to.text()), modeS, true)
	from.spoil()
	to.spoil()
	stands(t, x, held(1, keys(7, "bcd", "def"), modeX), waited(2, keys(7, "bcd", ""), modeS), held(3, keys(8, "", "def"), modeS))
	has(t, x, 1, keys(7, "bcd", "def"), modeX, true)
	asks(t, x, 4, keys(7, "def", "e"), modeX, false) // behind what 2 waits for
	waits(t, x, 0, [2]uint32{2, 1}, [2]uint32{4, 2})
}

// P12.5: what is answered is new memory, up to the end of it: no later call, and no earlier answer, has it.
func TestAnswersMemory(t *testing.T) {
	x := tableOf(t, asking{1, table(1), modeX, true}, asking{2, keys(1, "a", "b"), modeX, true}, asking{3, table(1), modeS, false}, asking{4, table(1), modeS, false}, asking{5, keys(1, "", ""), modeS, false})
	locks := []api.Lock{held(1, table(1), modeX), held(2, keys(1, "a", "b"), modeX), waited(3, table(1), modeS), waited(4, table(1), modeS), waited(5, keys(1, "", ""), modeS)}
	pairs := [][2]uint32{{3, 1}, {4, 1}, {5, 2}}
	kept, keptPairs := x.All(), x.Waits()
	for range 3 {
		all, ways := x.All(), x.Waits()
		all, ways = append(all, api.Lock{Txn: 9}), append(ways, [2]uint32{9, 9})
		all, ways = all[:cap(all)], ways[:cap(ways)]
		for i := range all {
			all[i] = api.Lock{Txn: 77, Thing: table(77), Mode: 77}
		}
		for i := range ways {
			ways[i] = [2]uint32{77, 77}
		}
		stands(t, x, locks...)
		waits(t, x, 0, pairs...)
	}
	got := x.Release(1)
	for i := range append(got, 8)[:cap(got)] {
		got[:cap(got)][i] = 77
	}
	asks(t, x, 6, table(6), modeX, true)
	stands(t, x, locks[1], held(3, table(1), modeS), held(4, table(1), modeS), locks[4], held(6, table(6), modeX))
	if !slices.Equal(kept, locks) || !slices.Equal(keptPairs, pairs) {
		t.Fatalf("an answer has changed: %+v, %v", kept, keptPairs)
	}
}
