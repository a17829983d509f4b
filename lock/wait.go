package lock

import (
	"cmp"
	"math"
	"slices"

	"cadastre/api"
)

// waitsFor makes a function that tells whether the lock at this place waits for the one at another place. One that is held waits for none.
func (t *Table) waitsFor(place int) func(other int) bool {
	asked := t.locks[place]
	// Who holds some of it passes those that wait: they wait, perhaps, for just that.
	passes := t.some(func(l *api.Lock) bool { return l.Txn == asked.Txn && l.Held && meet(l.Thing, asked.Thing) })
	return func(other int) bool {
		l := &t.locks[other]
		return (l.Held || other < place && !passes) && l.Txn != asked.Txn && conflict(l.Mode, asked.Mode) && meet(l.Thing, asked.Thing)
	}
}

// isFree tells whether the lock at a place may be held.
func (t *Table) isFree(place int) bool {
	waitsFor := t.waitsFor(place)
	for other := range t.locks {
		if waitsFor(other) {
			return false
		}
	}
	return true
}

// Waits tells who waits for whom.
func (t *Table) Waits() [][2]uint32 {
	t = t.orNone()
	places := t.byTxn()
	var pairs [][2]uint32
	for _, place := range places {
		if t.locks[place].Held {
			continue
		}
		txn, last := t.locks[place].Txn, uint32(0)
		waitsFor := t.waitsFor(place)
		for _, other := range places {
			if whom := t.locks[other].Txn; whom != last && waitsFor(other) {
				pairs = append(pairs, [2]uint32{txn, whom})
				last = whom
			}
		}
	}
	return pairs
}

// byTxn tells the places of all locks, by rising transactions.
func (t *Table) byTxn() []int {
	places := make([]int, len(t.locks))
	for place := range places {
		places[place] = place
	}
	slices.SortFunc(places, func(a, b int) int { return cmp.Compare(t.locks[a].Txn, t.locks[b].Txn) })
	return places
}

// Victim tells who is to end a ring.
func (t *Table) Victim() uint32 {
	t = t.orNone()
	var victim uint32
	t.rings(func(place int) { victim = max(victim, t.locks[place].Txn) })
	return victim
}

// lasts tells, by each lock's place, the place of the last one of its transaction: if that waits, the one that it waits for.
func (t *Table) lasts() []int {
	last := map[uint32]int{}
	for place, l := range t.locks {
		last[l.Txn] = place
	}
	places := make([]int, len(t.locks))
	for place, l := range t.locks {
		places[place] = last[l.Txn]
	}
	return places
}

// rings calls come with the place of each lock whose transaction waits for it, and over others for itself.
func (t *Table) rings(come func(place int)) {
	const closed = math.MaxInt
	lasts := t.lasts()
	numbers := make([]int, len(t.locks)) // from 1 on, in the order in which they are met; closed: no way leads from there to one that is open
	var open []int
	met := 0
	// follow goes all ways on from a lock, and tells the least number that they come to. If that is its own, what is open from there on leads to nothing ahead of it: it is a ring, or that lock alone.
	var follow func(place int) int
	follow = func(place int) int {
		met++
		number, least, from := met, met, len(open)
		numbers[place] = number
		open = append(open, place)
		waitsFor := t.waitsFor(place)
		for other, next := range lasts {
			if !waitsFor(other) {
				continue
			}
			if numbers[next] == 0 {
				least = min(least, follow(next))
			}
			least = min(least, numbers[next])
		}
		if least < number {
			return least
		}
		ring := open[from:]
		open = open[:from]
		for _, place := range ring {
			numbers[place] = closed
			if len(ring) > 1 {
				come(place)
			}
		}
		return number
	}
	for place, l := range t.locks {
		if !l.Held && numbers[place] == 0 {
			follow(place)
		}
	}
}
