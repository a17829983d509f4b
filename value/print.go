package value

import (
	"strconv"
	"strings"

	"cadastre/api"
)

// quote stands at both ends of a printed text; within it, it stands twice.
const quote = "'"

// Print tells how a value is written.
func Print(v api.Value) (string, api.Errno) {
	if !May(v) {
		return "", api.ErrForm
	}
	switch v.Kind {
	case api.Null:
		return "null", api.OK
	case api.Bool:
		return strconv.FormatBool(v == ofBool(true)), api.OK
	case api.Int:
		return strconv.FormatInt(v.N, 10), api.OK
	}
	return quote + strings.ReplaceAll(v.S, quote, quote+quote) + quote, api.OK
}

// Read tells the value that is written so.
func Read(s string) (api.Value, api.Errno) {
	v := nearest(s)
	// One form alone is read, and Print knows it: what is near to a print, as by noughts ahead, is printed otherwise.
	if printed, e := Print(v); e != api.OK || printed != s {
		return api.Value{}, api.ErrForm
	}
	return v, api.OK
}

// nearest tells the one value whose print s might be.
func nearest(s string) api.Value {
	if s == "false" || s == "true" {
		return ofBool(s == "true")
	}
	if quoted, ok := strings.CutPrefix(s, quote); ok {
		return ofText(strings.ReplaceAll(strings.TrimSuffix(quoted, quote), quote+quote, quote))
	}
	if n, err := strconv.ParseInt(s, 10, 64); err == nil {
		return ofInt(n)
	}
	return api.Value{}
}
