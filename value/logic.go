package value

import "cadastre/api"

// And tells whether both truths are true.
func And(a, b api.Value) (api.Value, api.Errno) { return decided(a, b, false) }

// Or tells whether one of two truths is true.
func Or(a, b api.Value) (api.Value, api.Errno) { return decided(a, b, true) }

// decided tells what one of two truths decides alone, whatever the other one is; if neither does, Null leaves it open.
func decided(a, b api.Value, deciding bool) (api.Value, api.Errno) {
	if e := wanted(api.Bool, a, b); e != api.OK {
		return api.Value{}, e
	}
	alone := ofBool(deciding)
	switch {
	case a == alone || b == alone:
		return alone, api.OK
	case anyNull(a, b):
		return api.Value{}, api.OK
	}
	return ofBool(!deciding), api.OK
}

// Not tells the other truth; Null stays Null.
func Not(a api.Value) (api.Value, api.Errno) {
	if e := wanted(api.Bool, a); e != api.OK {
		return api.Value{}, e
	}
	if isNull(a) {
		return api.Value{}, api.OK
	}
	return ofBool(a == ofBool(false)), api.OK
}
