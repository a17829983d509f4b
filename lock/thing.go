package lock

import "cadastre/api"

// The modes as bits.
const (
	bitIS = 1 << api.LockIS
	bitIX = 1 << api.LockIX
	bitS  = 1 << api.LockS
	bitX  = 1 << api.LockX
)

// against says, by the mode, with which modes it conflicts.
var against = [5]uint8{0, bitX, bitS | bitX, bitIX | bitX, bitIS | bitIX | bitS | bitX}

// within says, by the mode, which modes it has.
var within = [5]uint8{0, bitIS, bitIX | bitIS, bitS | bitIS, bitIS | bitIX | bitS | bitX}

// conflict tells whether two modes do.
func conflict(a, b int) bool { return against[a]>>b&1 == 1 }

// covers tells whether a mode has another one.
func covers(a, b int) bool { return within[a]>>b&1 == 1 }

// may tells whether a thing may be, and the mode is one for it.
func may(thing api.Thing, mode int) bool {
	if !thing.Range {
		return thing.From == "" && thing.To == "" && mode >= api.LockIS && mode <= api.LockX
	}
	return len(thing.From) <= api.MaxBound && len(thing.To) <= api.MaxBound && beginsAhead(thing, thing) && (mode == api.LockS || mode == api.LockX)
}

// beginsAhead tells whether a thing begins ahead of where another one ends. Tables have neither end, and are as ranges of all keys.
func beginsAhead(a, b api.Thing) bool { return b.To == "" || a.From < b.To }

// alike tells whether two things are tables, or ranges, of one number.
func alike(a, b api.Thing) bool { return a.Range == b.Range && a.Id == b.Id }

// meet tells whether two things do.
func meet(a, b api.Thing) bool { return alike(a, b) && beginsAhead(a, b) && beginsAhead(b, a) }

// lies tells whether a thing lies in another one.
func lies(thing, in api.Thing) bool {
	return alike(thing, in) && in.From <= thing.From && (in.To == "" || thing.To != "" && thing.To <= in.To)
}
