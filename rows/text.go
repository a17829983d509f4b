package rows

import (
	"cadastre/api"
	"cadastre/code"
)

// kinds is how many kinds of values there are.
const kinds = api.Bool + 1

// form is what a kind writes of a value, and how that is read.
type form struct {
	write func(w *code.Writer, v api.Value)
	read  func(r *code.Reader) api.Value
}

// forms are the forms of all kinds, each at its kind's number. What is read has its kind, but may be none that may be.
func forms() [kinds]form {
	return [kinds]form{
		// Null has its mark alone, ahead of all values.
		api.Null: {
			write: func(*code.Writer, api.Value) {},
			read:  func(*code.Reader) api.Value { return api.Value{} },
		},
		api.Int: {
			write: func(w *code.Writer, v api.Value) { w.Int(v.N) },
			read:  func(r *code.Reader) api.Value { return api.Value{Kind: api.Int, N: r.Int()} },
		},
		api.Text: {
			write: func(w *code.Writer, v api.Value) { w.Text(v.S) },
			read:  func(r *code.Reader) api.Value { return api.Value{Kind: api.Text, S: r.Text(api.MaxText)} },
		},
		api.Bool: {
			write: func(w *code.Writer, v api.Value) { w.U8(uint8(v.N)) },
			read:  func(r *code.Reader) api.Value { return api.Value{Kind: api.Bool, N: int64(r.U8())} },
		},
	}
}

// markBits is how many columns' marks, that a value is Null, stand in one byte.
const markBits = 8

// markBytes tells how many bytes the marks of so many columns have: a begun one counts.
func markBytes(columns int) int { return (columns + markBits - 1) / markBits }

// markOf tells the bit of a column within its byte.
func markOf(place int) byte { return 1 << (place % markBits) }

// isMarked tells whether a column is marked; the marks go as far as its byte.
func isMarked(marks []byte, place int) bool { return marks[place/markBits]&markOf(place) != 0 }

// marksOf tells the marks of a row.
func marksOf(row []api.Value) []byte {
	marks := make([]byte, markBytes(len(row)))
	for place, v := range row {
		if v.Kind == api.Null {
			marks[place/markBits] |= markOf(place)
		}
	}
	return marks
}

// marksBeyond tells whether there is a mark that is of none of so many columns.
func marksBeyond(marks []byte, columns int) bool {
	for place := columns; place < markBits*len(marks); place++ {
		if isMarked(marks, place) {
			return true
		}
	}
	return false
}

// Encode tells a row's text.
func Encode(cols []api.Column, row []api.Value) (string, api.Errno) {
	if e := Fits(cols, row); e != api.OK {
		return "", e
	}
	w, by := code.NewWriter(), forms()
	w.Raw(marksOf(row))
	for _, v := range row {
		by[v.Kind].write(w, v)
	}
	if w.Len() > api.MaxRow {
		return "", api.ErrWide
	}
	return string(w.Bytes()), api.OK
}

// Decode tells the row whose text it is.
func Decode(cols []api.Column, text string) ([]api.Value, api.Errno) {
	if !May(cols) {
		return nil, api.ErrArg
	}
	if len(text) > api.MaxRow {
		return nil, api.ErrForm
	}
	r := code.NewReader([]byte(text))
	row, ok := read(r, cols)
	// A reader with a fault has answered zeros, which may fit.
	if !ok || r.End() != api.OK || Fits(cols, row) != api.OK {
		return nil, api.ErrForm
	}
	return row, api.OK
}

// read takes the marks, and as many values as there are columns; false, if the marks are none of these columns.
func read(r *code.Reader, cols []api.Column) ([]api.Value, bool) {
	marks := r.Raw(markBytes(len(cols)))
	if r.Err() != api.OK || marksBeyond(marks, len(cols)) {
		return nil, false
	}
	row, by := make([]api.Value, len(cols)), forms()
	for place, c := range cols {
		kind := c.Kind
		if isMarked(marks, place) {
			kind = api.Null
		}
		row[place] = by[kind].read(r)
	}
	return row, true
}
