package bag

import (
	"slices"

	"cirrus/api"
	"cirrus/variant"
)

// formula returns the formula of x over the rows of the only kid.
func (n node) formula(x api.Expr) formula { return formulaOf(x, n.kids[0].Cols) }

func (n node) formulas(l []api.Expr) []formula { return formulasOf(l, n.kids[0].Cols) }

func (n node) scan() []api.Row {
	r, _ := n.table()
	var rows []api.Row
	for _, row := range r.Rows {
		rows = append(rows, api.Row{Vals: row.Vals})
	}
	return rows
}

func (n node) filter() []api.Row {
	condition := n.formula(n.query.Expr)
	var rows []api.Row
	for _, r := range n.kids[0].Rows {
		if condition.holds(r.Vals) {
			rows = append(rows, r)
		}
	}
	return rows
}

func (n node) project() []api.Row {
	cols := n.formulas(exprsOfCols(n.query))
	var rows []api.Row
	for _, r := range n.kids[0].Rows {
		rows = append(rows, api.Row{Vals: valuesOf(cols, r.Vals)})
	}
	return rows
}

func (n node) sort() []api.Row {
	type keyed struct {
		row  api.Row
		keys []api.Value
	}
	keys := n.formulas(exprsOfKeys(n.query))
	var l []keyed
	for _, r := range n.kids[0].Rows {
		l = append(l, keyed{r, valuesOf(keys, r.Vals)})
	}
	slices.SortStableFunc(l, func(a, b keyed) int { return n.compareKeys(a.keys, b.keys) })
	var rows []api.Row
	for _, k := range l {
		rows = append(rows, k.row)
	}
	return rows
}

// compareKeys compares the values of the Keys of two rows.
func (n node) compareKeys(a, b []api.Value) int {
	for i, key := range n.query.Keys {
		c := compare(a[i], b[i])
		if key.Down {
			c = -c
		}
		if c != 0 {
			return c
		}
	}
	return 0
}

func (n node) limit() []api.Row {
	rows := n.kids[0].Rows
	return rows[:min(n.query.N, len(rows))]
}

func (n node) distinct() []api.Row {
	all := n.kids[0].Rows
	var rows []api.Row
	for _, g := range gathered(all, func(vals []api.Value) []api.Value { return vals }) {
		rows = append(rows, all[g.at[0]])
	}
	return rows
}

func (n node) union() []api.Row {
	return slices.Concat(n.kids[0].Rows, n.kids[1].Rows)
}

func (n node) flatten() []api.Row {
	whole := n.formula(n.query.Expr)
	var rows []api.Row
	for _, r := range n.kids[0].Rows {
		items, _ := variant.Flatten(whole.value(r.Vals))
		for _, item := range items {
			rows = append(rows, api.Row{Vals: slices.Concat(r.Vals, []api.Value{item.Value, place(item.Path[0])})})
		}
		if tooMany(rows) {
			break
		}
	}
	return rows
}

// place returns the key or the index of a step as a value.
func place(s api.Step) api.Value {
	if s.Index < 0 {
		return api.Value{Kind: api.KText, Text: s.Key}
	}
	return number(s.Index)
}
