package bag

import (
	"slices"

	"cirrus/api"
	"cirrus/value"
)

// group is rows that have something in common.
type group struct {
	vals []api.Value // what it is
	at   []int       // where they are, rising; at least one, unless there are no rows at all
}

// gathered returns the rows in groups for which of returns equal values, in the order of the first rows of these.
func gathered(rows []api.Row, of func(vals []api.Value) []api.Value) []group {
	var groups []group
	known := map[string]int{}
	for i, r := range rows {
		vals := of(r.Vals)
		key := keyOf(vals)
		k, ok := known[key]
		if !ok {
			k = len(groups)
			known[key] = k
			groups = append(groups, group{vals: vals})
		}
		groups[k].at = append(groups[k].at, i)
	}
	return groups
}

func (n node) group() []api.Row {
	cols, aggs := n.formulas(exprsOfCols(n.query)), n.formulas(exprsOfAggs(n.query))
	groups := gathered(n.kids[0].Rows, func(vals []api.Value) []api.Value { return valuesOf(cols, vals) })
	if len(cols) == 0 && len(groups) == 0 {
		groups = []group{{}}
	}
	slices.SortFunc(groups, func(a, b group) int { return compareLists(a.vals, b.vals) })
	reckon := aggregates()
	var rows []api.Row
	for _, g := range groups {
		vals := slices.Clone(g.vals)
		for i, a := range n.query.Aggs {
			vals = append(vals, reckon[a.Op](n.present(g, aggs[i])))
		}
		rows = append(rows, api.Row{Vals: vals})
	}
	return rows
}

// present returns the values of f over the rows of the group, without nulls.
func (n node) present(g group, f formula) []api.Value {
	var l []api.Value
	for _, i := range g.at {
		if v := f.value(n.kids[0].Rows[i].Vals); v.Kind != api.KNull {
			l = append(l, v)
		}
	}
	return l
}

// aggregates returns how the Ops of aggregates are reckoned from the values over a group that are not null.
func aggregates() map[string]func(l []api.Value) api.Value {
	return map[string]func(l []api.Value) api.Value{
		"count": func(l []api.Value) api.Value { return number(len(l)) },
		"many": func(l []api.Value) api.Value {
			different, _ := value.Distinct(l)
			return number(len(different))
		},
		"min": func(l []api.Value) api.Value {
			if len(l) == 0 {
				return api.Value{}
			}
			return slices.MinFunc(l, compare)
		},
		"max": func(l []api.Value) api.Value {
			if len(l) == 0 {
				return api.Value{}
			}
			return slices.MaxFunc(l, compare)
		},
		"sum": sum,
	}
}

// sum returns the sum of those values that are ints; null if there are none, or if it is beyond the limit of ints.
func sum(l []api.Value) api.Value {
	ints, total := 0, 0
	for _, v := range l {
		if v.Kind == api.KInt {
			ints++
			// This does not wrap around: a part has too few rows for it.
			total += v.Int
		}
	}
	if ints == 0 {
		return api.Value{}
	}
	return number(total)
}
