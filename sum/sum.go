// Package sum is layer 1: see shared/doc/01-sum.md.
package sum

// polynomial is that of CRC-32C, its bits turned round: the register is moved down.
const polynomial = 0x82F63B78

// sumBytes is how many bytes of a sealed text its sum has.
const sumBytes = 4

// Of tells the sum of bytes: CRC-32C.
func Of(b []byte) uint32 { return More(0, b) }

// More tells the sum of the bytes whose sum s is, and b behind them.
func More(s uint32, b []byte) uint32 {
	register := ^s
	for _, x := range b {
		register = eightSteps(register ^ uint32(x))
	}
	return ^register
}

// eightSteps moves a register on by the eight bits of a byte that was xored into it.
func eightSteps(register uint32) uint32 {
	for range 8 {
		// All pages and all of the log go through here: one move for both cases is several times as fast as a branch.
		var xored uint32
		if register&1 == 1 {
			xored = polynomial
		}
		register = register>>1 ^ xored
	}
	return register
}

// Seal tells b, and its sum behind it, the lowest byte first.
func Seal(b []byte) []byte {
	sealed := make([]byte, len(b)+sumBytes)
	copy(sealed, b)
	s := Of(b)
	for i := range sumBytes {
		sealed[len(b)+i] = byte(s >> (8 * i))
	}
	return sealed
}

// Open tells what was sealed; false: it is none.
func Open(b []byte) ([]byte, bool) {
	if len(b) < sumBytes {
		return nil, false
	}
	text, tail := b[:len(b)-sumBytes], b[len(b)-sumBytes:]
	if lowestFirst(tail) != Of(text) {
		return nil, false
	}
	opened := make([]byte, len(text))
	copy(opened, text)
	return opened, true
}

// lowestFirst tells the number whose bytes these are, the lowest first.
func lowestFirst(tail []byte) uint32 {
	var s uint32
	for i, x := range tail {
		s |= uint32(x) << (8 * i)
	}
	return s
}
