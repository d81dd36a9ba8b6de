package value

import (
	"math"

	"stile/api"
)

// both asks what every operation asks of its two values, and does the operation only if both are of its kind.
func both(kind api.Kind, a, b api.Value, operation func() (api.Value, api.State)) (api.Value, api.State) {
	for _, v := range [2]api.Value{a, b} {
		if v.Kind != api.Null && v.Kind != kind {
			return api.Value{}, api.Mismatch
		}
	}
	if a.Kind == api.Null || b.Kind == api.Null {
		return api.Value{}, api.Done
	}
	return operation()
}

// numbers does an operation on two whole numbers.
func numbers(a, b api.Value, operation func(x, y int64) (int64, api.State)) (api.Value, api.State) {
	return both(api.Num, a, b, func() (api.Value, api.State) {
		n, state := operation(a.N, b.N)
		if state != api.Done {
			return api.Value{}, state
		}
		return api.Value{Kind: api.Num, N: n}, api.Done
	})
}

// Add is a sum.
func Add(a, b api.Value) (api.Value, api.State) {
	return numbers(a, b, func(x, y int64) (int64, api.State) {
		if y > 0 && x > math.MaxInt64-y || y < 0 && x < math.MinInt64-y {
			return 0, api.OutOfRange
		}
		return x + y, api.Done
	})
}

// Sub is a difference.
func Sub(a, b api.Value) (api.Value, api.State) {
	return numbers(a, b, func(x, y int64) (int64, api.State) {
		if y < 0 && x > math.MaxInt64+y || y > 0 && x < math.MinInt64+y {
			return 0, api.OutOfRange
		}
		return x - y, api.Done
	})
}

// Mul is a product.
func Mul(a, b api.Value) (api.Value, api.State) {
	return numbers(a, b, func(x, y int64) (int64, api.State) {
		if y == 0 {
			return 0, api.Done
		}
		product := x * y
		// The quotient of the least number by -1 wraps round to the least number, and so would not show that this product did too.
		if product/y != x || y == -1 && x == math.MinInt64 {
			return 0, api.OutOfRange
		}
		return product, api.Done
	})
}

// Div is a quotient, without its rest.
func Div(a, b api.Value) (api.Value, api.State) {
	return numbers(a, b, func(x, y int64) (int64, api.State) {
		if y == 0 {
			return 0, api.Zero
		}
		if y == -1 && x == math.MinInt64 {
			return 0, api.OutOfRange
		}
		return x / y, api.Done
	})
}

// Neg is a number turned around.
func Neg(a api.Value) (api.Value, api.State) {
	return Sub(api.Value{Kind: api.Num}, a)
}

// Concat is a text behind another one.
func Concat(a, b api.Value) (api.Value, api.State) {
	return both(api.Text, a, b, func() (api.Value, api.State) {
		if len(a.S)+len(b.S) > api.MaxString {
			return api.Value{}, api.TooLong
		}
		return api.Value{Kind: api.Text, S: a.S + b.S}, api.Done
	})
}
