package value

import (
	"cmp"

	"cadastre/api"
)

// Compare tells -1, 0 or 1: a stands ahead of b, is it, or stands behind it.
func Compare(a, b api.Value) (int, api.Errno) {
	if !allMay(a, b) {
		return 0, api.ErrForm
	}
	return order(a, b), api.OK
}

// order compares two values that may be: what a kind does not use is alike in both, and decides nothing.
func order(a, b api.Value) int {
	return cmp.Or(cmp.Compare(place(a.Kind), place(b.Kind)), cmp.Compare(a.N, b.N), cmp.Compare(a.S, b.S))
}

// place tells how many kinds stand ahead of a kind: each has one more than the one below it here.
func place(kind int) int {
	ahead := 0
	switch kind {
	case api.Text:
		ahead++
		fallthrough
	case api.Int:
		ahead++
		fallthrough
	case api.Bool:
		ahead++
	}
	return ahead
}

// comparison makes a call that says whether the order of two values of one kind is one of those that are asked for.
func comparison(asked func(order int) bool) func(a, b api.Value) (api.Value, api.Errno) {
	return func(a, b api.Value) (api.Value, api.Errno) {
		switch {
		case !allMay(a, b):
			return api.Value{}, api.ErrForm
		case anyNull(a, b):
			return api.Value{}, api.OK
		case a.Kind != b.Kind:
			return api.Value{}, api.ErrKind
		}
		return ofBool(asked(order(a, b))), api.OK
	}
}

// Eq tells whether a is b.
func Eq(a, b api.Value) (api.Value, api.Errno) {
	return comparison(func(order int) bool { return order == 0 })(a, b)
}

// Ne tells whether a is not b.
func Ne(a, b api.Value) (api.Value, api.Errno) {
	return comparison(func(order int) bool { return order != 0 })(a, b)
}

// Lt tells whether a stands ahead of b.
func Lt(a, b api.Value) (api.Value, api.Errno) {
	return comparison(func(order int) bool { return order < 0 })(a, b)
}

// Le tells whether a stands ahead of b, or is it.
func Le(a, b api.Value) (api.Value, api.Errno) {
	return comparison(func(order int) bool { return order <= 0 })(a, b)
}

// Gt tells whether a stands behind b.
func Gt(a, b api.Value) (api.Value, api.Errno) {
	return comparison(func(order int) bool { return order > 0 })(a, b)
}

// Ge tells whether a stands behind b, or is it.
func Ge(a, b api.Value) (api.Value, api.Errno) {
	return comparison(func(order int) bool { return order >= 0 })(a, b)
}
