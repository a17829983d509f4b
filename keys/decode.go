package keys

import (
	"cadastre/api"
	"cadastre/value"
)

// cutter cuts so many bytes off what is left of a key; false, if that is less.
type cutter func(bytes int) (string, bool)

// cutterOf makes a key's cutter, which keeps the place up to which the key is cut off.
func cutterOf(key string) cutter {
	place := 0
	return func(bytes int) (string, bool) {
		from := place
		if bytes > len(key)-from {
			return "", false
		}
		place += bytes
		return key[from:place], true
	}
}

// Decode tells the row whose key it is.
func Decode(key string) ([]api.Value, api.Errno) {
	if len(key) > api.MaxKey {
		return nil, api.ErrForm
	}
	var row []api.Value
	cut := cutterOf(key)
	for {
		mark, ok := cut(1)
		if !ok {
			return row, api.OK
		}
		v, ok := cutValue(cut, mark[0])
		if !ok || len(row) == api.MaxCols {
			return nil, api.ErrForm
		}
		row = append(row, v)
	}
}

// cutValue cuts off what stands behind a value's mark.
func cutValue(cut cutter, mark byte) (api.Value, bool) {
	switch mark {
	case markNull:
		return api.Value{}, true
	case markFalse, markTrue:
		return api.Value{Kind: api.Bool, N: int64(mark - markFalse)}, true
	case markInt:
		n, ok := cutNumber(cut)
		return api.Value{Kind: api.Int, N: n}, ok
	case markText:
		s, ok := cutText(cut)
		v := api.Value{Kind: api.Text, S: s}
		// A text may have its form, and too many bytes for a value.
		return v, ok && value.May(v)
	}
	return api.Value{}, false
}

// cutNumber cuts off a number.
func cutNumber(cut cutter) (int64, bool) {
	bytes, ok := cut(numberBytes)
	if !ok {
		return 0, false
	}
	n := uint64(0)
	for at := range numberBytes {
		n = n<<8 | uint64(bytes[at])
	}
	return int64(n ^ highestBit), true
}

// cutText cuts off a text, and its end.
func cutText(cut cutter) (string, bool) {
	var text []byte
untilEnd:
	for {
		next, ok := cut(1)
		if !ok {
			return "", false
		}
		if next[0] == zero {
			sign, ok := cut(1)
			switch {
			case !ok:
				return "", false
			case sign[0] == zeroEnds:
				break untilEnd
			case sign[0] != zeroStays:
				return "", false
			}
		}
		text = append(text, next[0])
	}
	return string(text), true
}
