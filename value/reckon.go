package value

import (
	"math"

	"cadastre/api"
)

// reckoned tells what two numbers make; with Null it is Null, whatever the other number.
func reckoned(a, b api.Value, from func(x, y int64) (int64, api.Errno)) (api.Value, api.Errno) {
	if e := wanted(api.Int, a, b); e != api.OK {
		return api.Value{}, e
	}
	if anyNull(a, b) {
		return api.Value{}, api.OK
	}
	x, e := from(a.N, b.N)
	if e != api.OK {
		return api.Value{}, e
	}
	return ofInt(x), api.OK
}

// within tells x, where it is the exact result: numbers beyond 64 bits have wrapped round.
func within(x int64, exact bool) (int64, api.Errno) {
	if !exact {
		return 0, api.ErrOverflow
	}
	return x, api.OK
}

// turnsLeast tells whether y would give x the other sign, which the least number alone does not have in 64 bits.
func turnsLeast(x, y int64) bool { return x == math.MinInt64 && y == -1 }

// Add tells the sum.
func Add(a, b api.Value) (api.Value, api.Errno) {
	return reckoned(a, b, func(x, y int64) (int64, api.Errno) {
		sum := x + y
		return within(sum, (sum < x) == (y < 0))
	})
}

// Sub tells the difference.
func Sub(a, b api.Value) (api.Value, api.Errno) {
	return reckoned(a, b, func(x, y int64) (int64, api.Errno) {
		difference := x - y
		return within(difference, (difference > x) == (y < 0))
	})
}

// Mul tells the product.
func Mul(a, b api.Value) (api.Value, api.Errno) {
	return reckoned(a, b, func(x, y int64) (int64, api.Errno) {
		product := x * y
		return within(product, y == 0 || product/y == x && !turnsLeast(x, y))
	})
}

// Div tells the quotient, cut off towards 0.
func Div(a, b api.Value) (api.Value, api.Errno) {
	return reckoned(a, b, func(x, y int64) (int64, api.Errno) {
		if y == 0 {
			return 0, api.ErrZero
		}
		return within(x/y, !turnsLeast(x, y))
	})
}

// Mod tells what Div leaves over: of the least number and -1 that is 0, though their quotient is beyond 64 bits.
func Mod(a, b api.Value) (api.Value, api.Errno) {
	return reckoned(a, b, func(x, y int64) (int64, api.Errno) {
		if y == 0 {
			return 0, api.ErrZero
		}
		return x % y, api.OK
	})
}

// Neg tells a with the other sign.
func Neg(a api.Value) (api.Value, api.Errno) { return Sub(ofInt(0), a) }

// Join tells a's bytes, and b's behind them.
func Join(a, b api.Value) (api.Value, api.Errno) {
	if e := wanted(api.Text, a, b); e != api.OK {
		return api.Value{}, e
	}
	switch {
	case anyNull(a, b):
		return api.Value{}, api.OK
	case len(a.S)+len(b.S) > api.MaxText:
		return api.Value{}, api.ErrLong
	}
	return ofText(a.S + b.S), api.OK
}
