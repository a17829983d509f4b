package code

import (
	"bytes"

	"cadastre/api"
)

// Reader takes what was written from bytes.
type Reader struct {
	standing
	left []byte
}

// NewReader makes one of bytes.
func NewReader(b []byte) *Reader {
	return &Reader{standing: standing{sound: true}, left: bytes.Clone(b)}
}

// readable tells whether r was made to be read from, and has no fault.
func (r *Reader) readable() bool { return r != nil && r.sound }

// take takes n bytes; false: there are none to be had, or not so many.
func (r *Reader) take(n int) ([]byte, bool) {
	if !r.readable() {
		return nil, false
	}
	if n < 0 || n > len(r.left) {
		r.sound = false
		return nil, false
	}
	taken := r.left[:n]
	r.left = r.left[n:]
	return taken, true
}

// U8, U16, U32 and U64 take a fixed number.
func (r *Reader) U8() uint8   { return readFixed[uint8](r) }
func (r *Reader) U16() uint16 { return readFixed[uint16](r) }
func (r *Reader) U32() uint32 { return readFixed[uint32](r) }
func (r *Reader) U64() uint64 { return readFixed[uint64](r) }

// readFixed takes a number's bytes, the lowest first.
func readFixed[N fixed](r *Reader) N {
	taken, _ := r.take(sizeOf[N]())
	var x N
	for i, b := range taken {
		x |= N(b) << (8 * i)
	}
	return x
}

// Uint takes a counted number.
func (r *Reader) Uint() uint64 {
	if !r.readable() {
		return 0
	}
	x, n := counted(r.left)
	if n == 0 {
		r.sound = false
		return 0
	}
	r.left = r.left[n:]
	return x
}

// Int takes a signed number.
func (r *Reader) Int() int64 { return signed(r.Uint()) }

// Text takes a text of at most so many bytes.
func (r *Reader) Text(most int) string {
	if !r.readable() {
		return ""
	}
	count, n := counted(r.left)
	behind := r.left[n:]
	// All is asked ahead of the first byte's taking: with a fault the count stays too.
	if n == 0 || most < 0 || count > uint64(most) || count > uint64(len(behind)) {
		r.sound = false
		return ""
	}
	r.left = behind[count:]
	return string(behind[:count])
}

// Raw takes n bytes.
func (r *Reader) Raw(n int) []byte {
	taken, _ := r.take(n)
	return bytes.Clone(taken)
}

// Left tells how many bytes were not taken.
func (r *Reader) Left() int {
	if r == nil {
		return 0
	}
	return len(r.left)
}

// Err tells whether r has a fault.
func (r *Reader) Err() api.Errno {
	if !r.readable() {
		return api.ErrForm
	}
	return api.OK
}

// End tells whether r has a fault, and bytes that are left are one.
func (r *Reader) End() api.Errno {
	if r.readable() && len(r.left) > 0 {
		r.sound = false
	}
	return r.Err()
}
