package expr

import (
	"cirrus/api"
	"cirrus/value"
)

func arithmetic(op string) (operation, bool) {
	switch op {
	case "add":
		return ofInts(2, func(n ...int) (int, bool) { return n[0] + n[1], true }), true
	case "sub":
		return ofInts(2, func(n ...int) (int, bool) { return n[0] - n[1], true }), true
	case "mul":
		return ofInts(2, product), true
	case "div":
		return ofInts(2, func(n ...int) (int, bool) {
			if n[1] == 0 {
				return 0, false
			}
			return n[0] / n[1], true
		}), true
	case "mod":
		return ofInts(2, func(n ...int) (int, bool) {
			if n[1] == 0 {
				return 0, false
			}
			return n[0] % n[1], true
		}), true
	case "neg":
		return ofInts(1, func(n ...int) (int, bool) { return -n[0], true }), true
	}
	return operation{}, false
}

// ofInts returns the operation that computes an int of so many ints. It is null for other values, where compute
// reports false, and for what is beyond the limit of ints.
func ofInts(kids int, compute func(n ...int) (int, bool)) operation {
	return exactly(kids, func(_ api.Expr, l ...api.Value) api.Value {
		var ints []int
		for _, v := range l {
			if v.Kind != api.KInt {
				return api.Value{}
			}
			ints = append(ints, v.Int)
		}
		n, ok := compute(ints...)
		if !ok {
			return api.Value{}
		}
		return number(n)
	})
}

// product returns the product of two ints, and whether it is within the limit of ints; beyond it, it may wrap around.
func product(n ...int) (int, bool) {
	a, b := n[0], n[1]
	return a * b, a == 0 || max(b, -b) <= api.MaxInt/max(a, -a)
}

// number returns the int n; null if it is beyond the limit of ints.
func number(n int) api.Value {
	v, _ := value.Number(n)
	return v
}
