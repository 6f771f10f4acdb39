package zone_test

import (
	"slices"
	"testing"

	"cirrus/api"
	"cirrus/expr"
)

// meaning is the chapter's definitions, read one by one.
type meaning struct{ h api.Head }

func isOne(s api.Span) bool {
	return !s.Null && s.Known && order(s.Min, s.Max) == 0 || s.Null && !s.Some
}

func exact(v api.Value) api.Span {
	if isNull(v) {
		return api.Span{Null: true}
	}
	return api.Span{Some: true, Known: true, Min: v, Max: v}
}

func unknown() api.Span { return api.Span{Null: true, Some: true} }

// told returns what the head says of a col, or of a get at one of its paths.
func (m meaning) told(x api.Expr) (api.Span, bool) {
	at := func(name string) int {
		return slices.IndexFunc(m.h.Cols, func(c api.Column) bool { return c.Name == name })
	}
	span := func(s api.Stat) api.Span {
		return api.Span{Null: s.Nulls != 0, Some: s.Nulls != s.Rows, Known: s.Nulls != s.Rows, Min: s.Min, Max: s.Max}
	}
	if x.Op == "col" {
		return span(m.h.Stats[at(x.Name)]), true
	}
	if x.Op == "get" && x.Kids[0].Op == "col" {
		for _, p := range m.h.Paths {
			if p.Col == at(x.Kids[0].Name) && slices.Equal(p.Path, x.Path) {
				return span(p.Stat), true
			}
		}
	}
	return api.Span{}, false
}

// single returns the value of x if each kid is one value.
func (m meaning) single(x api.Expr) (api.Value, bool) {
	var kids []api.Expr
	for _, kid := range x.Kids {
		s := m.span(kid)
		if !isOne(s) {
			return api.Value{}, false
		}
		kids = append(kids, constant(s.Min))
	}
	x.Kids = kids
	folded, _ := expr.Fold(x)
	return folded.Val, true
}

func (m meaning) span(x api.Expr) api.Span {
	if s, ok := m.told(x); ok {
		return s
	}
	if v, ok := m.single(x); ok {
		return exact(v)
	}
	switch x.Op {
	case "and", "or", "not", "in", "eq", "ne", "lt", "le", "gt", "ge", "same", "null", "has", "like":
		return ofTruths(m.zone(x))
	case "add", "sub", "neg":
		return m.sum(x)
	case "if":
		return m.branch(x)
	case "first":
		return m.first(x)
	}
	return unknown()
}

func ofTruths(z api.Zone) api.Span {
	s := api.Span{Null: z.Null}
	for n, can := range []bool{z.False, z.True} {
		if can {
			s = union(s, exact(truth(n)))
		}
	}
	return s
}

func union(a, b api.Span) api.Span {
	switch {
	case !a.Some:
		b.Null = a.Null || b.Null
		return b
	case !b.Some:
		a.Null = a.Null || b.Null
		return a
	case !a.Known || !b.Known:
		return api.Span{Null: a.Null || b.Null, Some: true}
	}
	if order(b.Min, a.Min) < 0 {
		a.Min = b.Min
	}
	if order(b.Max, a.Max) > 0 {
		a.Max = b.Max
	}
	a.Null = a.Null || b.Null
	return a
}

// sum finds the least and the greatest result among those of the bounds.
func (m meaning) sum(x api.Expr) api.Span {
	zero := exact(number(0))
	a, b := zero, m.span(x.Kids[0])
	if x.Op != "neg" {
		a, b = m.span(x.Kids[0]), m.span(x.Kids[1])
	}
	if !a.Some || !b.Some {
		return api.Span{Null: true}
	}
	for _, s := range []api.Span{a, b} {
		if !s.Known || s.Min.Kind != api.KInt || s.Max.Kind != api.KInt {
			return unknown()
		}
	}
	sign := -1
	if x.Op == "add" {
		sign = 1
	}
	results := []int{a.Min.Int + sign*b.Min.Int, a.Min.Int + sign*b.Max.Int, a.Max.Int + sign*b.Min.Int, a.Max.Int + sign*b.Max.Int}
	from, to := slices.Min(results), slices.Max(results)
	s := api.Span{Null: a.Null || b.Null}
	if from < -api.MaxInt {
		s.Null, from = true, -api.MaxInt
	}
	if to > api.MaxInt {
		s.Null, to = true, api.MaxInt
	}
	if from <= to {
		s = union(s, union(exact(number(from)), exact(number(to))))
	}
	return s
}

func (m meaning) branch(x api.Expr) api.Span {
	z := m.zone(x.Kids[0])
	var l []api.Span
	if z.True {
		l = append(l, m.span(x.Kids[1]))
	}
	if z.False || z.Null {
		l = append(l, m.span(x.Kids[2]))
	}
	if len(l) == 1 {
		return l[0]
	}
	return union(l[0], l[1])
}

func (m meaning) first(x api.Expr) api.Span {
	var all api.Span
	null := true
	for _, kid := range x.Kids {
		s := m.span(kid)
		all, null = union(all, s), null && s.Null
		if !s.Null {
			break
		}
	}
	all.Null = null
	return all
}

func (m meaning) zone(x api.Expr) api.Zone {
	if s, ok := m.told(x); ok {
		return ofSpan(s)
	}
	if v, ok := m.single(x); ok {
		return truthOf(v)
	}
	switch x.Op {
	case "not":
		z := m.zone(x.Kids[0])
		return api.Zone{True: z.False, False: z.True, Null: z.Null}
	case "and", "or":
		return combined(x.Op, m.zone(x.Kids[0]), m.zone(x.Kids[1]))
	case "in":
		z := m.zone(op("eq", x.Kids[0], x.Kids[1]))
		for _, kid := range x.Kids[2:] {
			z = combined("or", z, m.zone(op("eq", x.Kids[0], kid)))
		}
		return z
	case "eq", "ne", "lt", "le", "gt", "ge":
		return compared(x.Op, m.span(x.Kids[0]), m.span(x.Kids[1]))
	case "same":
		return alike(m.span(x.Kids[0]), m.span(x.Kids[1]))
	case "null":
		s := m.span(x.Kids[0])
		return api.Zone{True: s.Null, False: s.Some}
	case "has":
		return api.Zone{True: true, False: true}
	case "like":
		return api.Zone{True: true, False: true, Null: true}
	}
	return ofSpan(m.span(x))
}

func ofSpan(s api.Span) api.Zone {
	truths := s.Known && s.Min.Kind == api.KTruth && s.Max.Kind == api.KTruth
	can := func(n int) bool {
		return s.Some && (!s.Known || order(truth(n), s.Min) >= 0 && order(truth(n), s.Max) <= 0)
	}
	return api.Zone{Null: s.Null || s.Some && !truths, True: can(1), False: can(0)}
}

func combined(op string, a, b api.Zone) api.Zone {
	if op == "or" {
		return api.Zone{False: a.False && b.False, True: a.True || b.True, Null: a.Null && (b.Null || b.False) || b.Null && (a.Null || a.False)}
	}
	return api.Zone{True: a.True && b.True, False: a.False || b.False, Null: a.Null && (b.Null || b.True) || b.Null && (a.Null || a.True)}
}

func alike(a, b api.Span) api.Zone {
	a0, b0 := a, b
	a0.Null, b0.Null = false, false
	eq := api.Zone{}
	if a.Some && b.Some {
		eq = compared("eq", a0, b0)
	}
	return api.Zone{True: a.Null && b.Null || eq.True, False: a.Null && b.Some || b.Null && a.Some || eq.False}
}

func compared(op string, a, b api.Span) api.Zone {
	if !a.Some || !b.Some {
		return api.Zone{Null: true}
	}
	null := a.Null || b.Null
	known := a.Known && b.Known
	switch op {
	case "eq":
		if !known {
			return api.Zone{True: true, False: true, Null: null}
		}
		equal := order(a.Min, a.Max) == 0 && order(a.Max, b.Min) == 0 && order(b.Min, b.Max) == 0
		return api.Zone{True: order(a.Min, b.Max) <= 0 && order(b.Min, a.Max) <= 0, False: !equal, Null: null}
	case "ne":
		z := compared("eq", a, b)
		return api.Zone{True: z.False, False: z.True, Null: z.Null}
	case "gt":
		return compared("lt", b, a)
	case "ge":
		return compared("le", b, a)
	}
	kinds := []int{a.Min.Kind, a.Max.Kind, b.Min.Kind, b.Max.Kind}
	ordered := slices.Index([]int{api.KTruth, api.KInt, api.KText}, kinds[0]) >= 0 && len(slices.Compact(kinds)) == 1
	switch {
	case !known || !ordered:
		return api.Zone{True: true, False: true, Null: true}
	case op == "lt":
		return api.Zone{True: order(a.Min, b.Max) < 0, False: order(a.Max, b.Min) >= 0, Null: null}
	}
	return api.Zone{True: order(b.Max, a.Min) >= 0, False: order(b.Min, a.Max) < 0, Null: null}
}

// Of, Zone and Verdict return what the chapter defines.
func TestMeaning(t *testing.T) {
	d := dice(2)
	for i := range 20000 {
		h, x := d.head(), d.expr()
		if i%2 == 0 {
			h = headOfRows(t, d.rows())
		}
		m := meaning{h}
		if got, want := shownSpan(spanOf(t, h, x)), shownSpan(m.span(x)); got != want {
			t.Fatalf("Of(%s, %s) = %s, not %s", shownHead(h), exprForm(x), got, want)
		}
		want := shownZone(m.zone(x))
		if got := shownZone(zoneOf(t, h, x)); got != want {
			t.Fatalf("Zone(%s, %s) = %s, not %s", shownHead(h), exprForm(x), got, want)
		}
		if got := verdictOf(t, h, x); got != shownVerdict(want) {
			t.Fatalf("Verdict(%s, %s) = %s, not %s", shownHead(h), exprForm(x), got, shownVerdict(want))
		}
	}
}
