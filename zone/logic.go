package zone

import (
	"cirrus/api"
)

// decided returns the possible truths of an operation whose values are truths or null; false for other operations.
func decided(op string, kids []possible) (api.Zone, bool) {
	switch op {
	case "not":
		return not(truths(kids[0])), true
	case "and":
		return and(truths(kids[0]), truths(kids[1])), true
	case "or":
		return or(truths(kids[0]), truths(kids[1])), true
	case "in":
		return in(kids[0], kids[1:]), true
	case "eq", "ne", "lt", "le", "gt", "ge":
		return compared(op, kids[0].span(), kids[1].span()), true
	case "same":
		return same(kids[0].span(), kids[1].span()), true
	case "null":
		s := kids[0].span()
		return api.Zone{True: s.Null, False: s.Some}, true
	case "has":
		return api.Zone{True: true, False: true}, true
	case "like":
		return api.Zone{True: true, False: true, Null: true}, true
	}
	return api.Zone{}, false
}

func not(z api.Zone) api.Zone {
	return api.Zone{True: z.False, False: z.True, Null: z.Null}
}

func and(a, b api.Zone) api.Zone {
	return api.Zone{
		True:  a.True && b.True,
		False: a.False || b.False,
		Null:  a.Null && (b.Null || b.True) || b.Null && a.True,
	}
}

func or(a, b api.Zone) api.Zone {
	return not(and(not(a), not(b)))
}

// in returns the possible truths of whether p is equal to one of l.
func in(p possible, l []possible) api.Zone {
	// False is what adds nothing to an or.
	z := api.Zone{False: true}
	for _, q := range l {
		z = or(z, compared("eq", p.span(), q.span()))
	}
	return z
}

// same returns the possible truths of whether two values are equal, also as nulls.
func same(a, b api.Span) api.Zone {
	z := api.Zone{True: a.Null && b.Null, False: a.Null && b.Some || a.Some && b.Null}
	if a.Some && b.Some {
		both := eq(a, b)
		z.True, z.False = z.True || both.True, z.False || both.False
	}
	return z
}

// compared returns the possible truths of eq, ne, lt, le, gt or ge.
func compared(op string, a, b api.Span) api.Zone {
	if !a.Some || !b.Some {
		return api.Zone{Null: true}
	}
	z := comparedSome(op, a, b)
	z.Null = z.Null || a.Null || b.Null
	return z
}

// comparedSome returns the possible truths for values that are not null.
func comparedSome(op string, a, b api.Span) api.Zone {
	switch op {
	case "eq":
		return eq(a, b)
	case "ne":
		return not(eq(a, b))
	case "lt":
		return lt(a, b)
	case "le":
		return not(lt(b, a))
	case "gt":
		return lt(b, a)
	}
	return not(lt(a, b))
}

func eq(a, b api.Span) api.Zone {
	if !a.Known || !b.Known {
		return api.Zone{True: true, False: true}
	}
	one := equal(a.Min, a.Max) && equal(b.Min, b.Max) && equal(a.Min, b.Min)
	return api.Zone{True: !before(a.Max, b.Min) && !before(b.Max, a.Min), False: !one}
}

func lt(a, b api.Span) api.Zone {
	if !ordered(a, b) {
		return api.Zone{True: true, False: true, Null: true}
	}
	return api.Zone{True: before(a.Min, b.Max), False: !before(a.Max, b.Min)}
}

// ordered reports whether lt is never null for values within the bounds.
func ordered(a, b api.Span) bool {
	k := a.Min.Kind
	if !a.Known || !b.Known || k != api.KTruth && k != api.KInt && k != api.KText {
		return false
	}
	return a.Max.Kind == k && b.Min.Kind == k && b.Max.Kind == k
}
