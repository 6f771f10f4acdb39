package zone

import (
	"cirrus/api"
	"cirrus/expr"
)

// of returns the possible values of e, whose columns h has.
func of(h api.Head, e api.Expr) possible {
	if s, ok := statOf(h, e); ok {
		return ofStat(s)
	}
	kids := make([]possible, len(e.Kids))
	for i, kid := range e.Kids {
		kids[i] = of(h, kid)
	}
	if single, ok := filled(e, kids); ok {
		v, _ := expr.Eval(h.Cols, make([]api.Value, len(h.Cols)), single)
		return exactly{v}
	}
	if z, ok := decided(e.Op, kids); ok {
		return ofTruths(z)
	}
	return reckoned(e.Op, kids)
}

// filled returns e with each kid replaced by its value, if each of them is one value.
func filled(e api.Expr, kids []possible) (api.Expr, bool) {
	e.Kids = make([]api.Expr, len(kids))
	for i, kid := range kids {
		only, ok := kid.(exactly)
		if !ok {
			return api.Expr{}, false
		}
		e.Kids[i] = api.Expr{Op: "const", Val: only.val}
	}
	return e, true
}

// reckoned returns the possible values of an operation that is not decided.
func reckoned(op string, kids []possible) possible {
	switch op {
	case "add":
		return sum(kids, 1, 1)
	case "sub":
		return sum(kids, 1, -1)
	case "neg":
		return sum(kids, -1)
	case "if":
		return branch(kids)
	case "first":
		return first(kids)
	}
	return anything()
}

func anything() possible { return unbounded{true} }

// sum returns the possible values of the sum of the kids, each times its sign.
func sum(kids []possible, signs ...int) possible {
	known, null, from, to := true, false, 0, 0
	for i, kid := range kids {
		s := kid.span()
		if !s.Some {
			return exactly{}
		}
		known = known && s.Known && s.Min.Kind == api.KInt && s.Max.Kind == api.KInt
		null = null || s.Null
		a, b := signs[i]*s.Min.Int, signs[i]*s.Max.Int
		from += min(a, b)
		to += max(a, b)
	}
	if !known {
		return anything()
	}
	return ints(from, to, null)
}

// ints returns these ints as far as they are within the limits, and null if some are not.
func ints(from, to int, null bool) possible {
	s := api.Span{Null: null || from < -api.MaxInt || to > api.MaxInt, Known: true}
	from, to = max(from, -api.MaxInt), min(to, api.MaxInt)
	s.Some = from <= to
	s.Min, s.Max = api.Value{Kind: api.KInt, Int: from}, api.Value{Kind: api.KInt, Int: to}
	return ofSpan(s)
}

// branch returns the possible values of an if.
func branch(kids []possible) possible {
	z := truths(kids[0])
	if !z.True {
		return kids[2]
	}
	if z == (api.Zone{True: true}) {
		return kids[1]
	}
	return ofSpan(union(kids[1].span(), kids[2].span()))
}

// first returns the possible values of the first of the kids that is not null.
func first(kids []possible) possible {
	s := kids[0].span()
	for _, kid := range kids[1:] {
		if !s.Null {
			break
		}
		next := kid.span()
		s = union(s, next)
		s.Null = next.Null
	}
	return ofSpan(s)
}
