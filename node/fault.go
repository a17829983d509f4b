package node

import "cadastre/api"

// fault is what comes up, by a panic, from wherever an error was met: from within the goings-over of children it has no other way.
type fault struct{ code api.Errno }

// must gives up with an error, unless all is well.
func must(well bool, e api.Errno) {
	if !well {
		panic(fault{e})
	}
}

// answer tells what a call answers, or the error with which it gave up.
func answer[T any](call func() T) (told T, e api.Errno) {
	defer func() {
		if up := recover(); up != nil {
			var none T
			told, e = none, codeOf(up)
		}
	}()
	return call(), api.OK
}

// codeOf tells the error that came up. What is no fault of this package came from a get that panics: it is no better than a nil one.
func codeOf(up any) api.Errno {
	if f, ok := up.(fault); ok {
		return f.code
	}
	return api.ErrArg
}
