package code

import "bytes"

// Writer has bytes that were written.
type Writer struct {
	standing
	written []byte
}

// NewWriter makes an empty one.
func NewWriter() *Writer { return &Writer{standing: standing{sound: true}} }

// writable tells whether w was made to be written to.
func (w *Writer) writable() bool { return w != nil && w.sound }

// U8, U16, U32 and U64 write a fixed number.
func (w *Writer) U8(x uint8)   { writeFixed(w, x) }
func (w *Writer) U16(x uint16) { writeFixed(w, x) }
func (w *Writer) U32(x uint32) { writeFixed(w, x) }
func (w *Writer) U64(x uint64) { writeFixed(w, x) }

// writeFixed writes a number's bytes, the lowest first.
func writeFixed[N fixed](w *Writer, x N) {
	if !w.writable() {
		return
	}
	for i := range sizeOf[N]() {
		w.written = append(w.written, byte(x>>(8*i)))
	}
}

// Uint writes a counted number.
func (w *Writer) Uint(x uint64) {
	if !w.writable() {
		return
	}
	for ; x >= more; x >>= groupBits {
		w.written = append(w.written, byte(x%more+more))
	}
	w.written = append(w.written, byte(x))
}

// Int writes a signed number.
func (w *Writer) Int(x int64) { w.Uint(unsigned(x)) }

// Text writes how many bytes a text has, and these.
func (w *Writer) Text(s string) {
	if !w.writable() {
		return
	}
	w.Uint(uint64(len(s)))
	w.written = append(w.written, s...)
}

// Raw writes bytes as they are.
func (w *Writer) Raw(b []byte) {
	if !w.writable() {
		return
	}
	w.written = append(w.written, b...)
}

// Bytes tells what was written.
func (w *Writer) Bytes() []byte {
	if w == nil {
		return nil
	}
	return bytes.Clone(w.written)
}

// Len tells how many bytes were written.
func (w *Writer) Len() int {
	if w == nil {
		return 0
	}
	return len(w.written)
}
