package bag_test

import (
	"slices"
	"testing"

	"cirrus/api"
	"cirrus/bag"
	"cirrus/expr"
	"cirrus/value"
	"cirrus/variant"
)

// TestMeaning compares Run with what the chapter says, read word by word, row by row and without any shortcut.
func TestMeaning(t *testing.T) {
	d := dice(3)
	for range 4000 {
		tables := d.tables()
		q := d.query(t, tables, 5)
		got, want := ran(t, q, tables), meaning(t, q, tables)
		if len(want.Rows) < api.MaxBag && !bag.Same(got, want) {
			t.Fatalf("over %v: %s = %s; not %s", tables, form(q), lists(got), lists(want))
		}
		if cols, e := bag.Check(q, tables); !slices.Equal(cols, want.Cols) || e != api.OK {
			t.Fatalf("Check(%s) = %s, %d; not %s", form(q), shown(cols), e, shown(want.Cols))
		}
	}
}

// meaning returns what q, which can be checked, yields.
func meaning(t *testing.T, q api.Query, tables []api.Table) api.Rows {
	t.Helper()
	var kids []api.Rows
	for _, kid := range q.Kids {
		kids = append(kids, meaning(t, kid, tables))
	}
	switch q.Op {
	case "scan":
		r := tables[slices.IndexFunc(tables, func(x api.Table) bool { return x.Name == q.Name })].Rows
		made := api.Rows{Cols: r.Cols}
		for _, row := range r.Rows {
			made.Rows = append(made.Rows, api.Row{Vals: row.Vals})
		}
		return made
	case "join", "left":
		return joined(t, q, kids[0], kids[1])
	case "union":
		return united(kids[0], kids[1])
	case "group":
		return grouped(t, q, kids[0])
	}
	return single(t, q, kids[0])
}

// at returns the value of x for a row.
func at(t *testing.T, cols []api.Column, row api.Row, x api.Expr) api.Value {
	t.Helper()
	v, e := expr.Eval(cols, row.Vals, x)
	if e != api.OK {
		t.Fatalf("Eval: %d", e)
	}
	return v
}

func isTrue(v api.Value) bool { return v.Kind == api.KTruth && v.Int == 1 }

func order(a, b api.Value) int {
	c, e := value.Compare(a, b)
	if e != api.OK {
		panic("Compare")
	}
	return c
}

func typeOf(cols []api.Column, x api.Expr) int {
	for _, c := range cols {
		if x.Op == "col" && x.Name == c.Name {
			return c.Type
		}
	}
	return api.TVariant
}

// single returns what a part with one kid yields.
func single(t *testing.T, q api.Query, kid api.Rows) api.Rows {
	t.Helper()
	made := api.Rows{Cols: kid.Cols}
	switch q.Op {
	case "project":
		made.Cols = nil
		for _, c := range q.Cols {
			made.Cols = append(made.Cols, api.Column{Name: c.Name, Type: typeOf(kid.Cols, c.Expr)})
		}
	case "flatten":
		made.Cols = append(slices.Clone(kid.Cols), api.Column{Name: q.Name, Type: api.TVariant}, api.Column{Name: q.Name + "_at", Type: api.TVariant})
	case "sort":
		return sorted(t, q, kid)
	case "limit":
		made.Rows = kid.Rows[:min(len(kid.Rows), q.N)]
	}
	for _, row := range kid.Rows {
		switch q.Op {
		case "filter":
			if isTrue(at(t, kid.Cols, row, q.Expr)) {
				made.Rows = append(made.Rows, row)
			}
		case "project":
			var vals []api.Value
			for _, c := range q.Cols {
				vals = append(vals, at(t, kid.Cols, row, c.Expr))
			}
			made.Rows = append(made.Rows, api.Row{Vals: vals})
		case "distinct":
			if !slices.ContainsFunc(made.Rows, func(other api.Row) bool { return slices.CompareFunc(row.Vals, other.Vals, order) == 0 }) {
				made.Rows = append(made.Rows, row)
			}
		case "flatten":
			items, _ := variant.Flatten(at(t, kid.Cols, row, q.Expr))
			for _, item := range items {
				place := number(item.Path[0].Index)
				if item.Path[0].Index == -1 {
					place = text(item.Path[0].Key)
				}
				made.Rows = append(made.Rows, api.Row{Vals: slices.Concat(row.Vals, []api.Value{item.Value, place})})
			}
		}
	}
	return made
}

// sorted inserts one row after another behind all that do not come after it.
func sorted(t *testing.T, q api.Query, kid api.Rows) api.Rows {
	t.Helper()
	after := func(a, b api.Row) bool {
		for _, k := range q.Keys {
			c := order(at(t, kid.Cols, a, k.Expr), at(t, kid.Cols, b, k.Expr))
			if c != 0 {
				return (c > 0) != k.Down
			}
		}
		return false
	}
	made := api.Rows{Cols: kid.Cols}
	for _, row := range kid.Rows {
		i := len(made.Rows)
		for i > 0 && after(made.Rows[i-1], row) {
			i--
		}
		made.Rows = slices.Insert(made.Rows, i, row)
	}
	return made
}

func joined(t *testing.T, q api.Query, first, second api.Rows) api.Rows {
	t.Helper()
	made := api.Rows{Cols: slices.Concat(first.Cols, second.Cols)}
	for _, a := range first.Rows {
		found := false
		for _, b := range second.Rows {
			row := api.Row{Vals: slices.Concat(a.Vals, b.Vals)}
			if isTrue(at(t, made.Cols, row, q.Expr)) {
				found = true
				made.Rows = append(made.Rows, row)
			}
		}
		if !found && q.Op == "left" {
			made.Rows = append(made.Rows, api.Row{Vals: slices.Concat(a.Vals, make([]api.Value, len(second.Cols)))})
		}
	}
	return made
}

func united(first, second api.Rows) api.Rows {
	made := api.Rows{Cols: slices.Clone(first.Cols), Rows: slices.Concat(first.Rows, second.Rows)}
	for i := range made.Cols {
		if first.Cols[i].Type != second.Cols[i].Type {
			made.Cols[i].Type = api.TVariant
		}
	}
	return made
}

func grouped(t *testing.T, q api.Query, kid api.Rows) api.Rows {
	t.Helper()
	keys := single(t, api.Query{Op: "project", Cols: q.Cols}, kid)
	var groups [][]api.Value
	if len(q.Cols) == 0 {
		groups = [][]api.Value{nil}
	} else {
		for _, row := range single(t, api.Query{Op: "distinct"}, keys).Rows {
			groups = append(groups, row.Vals)
		}
	}
	slices.SortFunc(groups, func(a, b []api.Value) int { return slices.CompareFunc(a, b, order) })
	made := api.Rows{Cols: keys.Cols}
	for _, a := range q.Aggs {
		made.Cols = append(made.Cols, api.Column{Name: a.Name, Type: api.TVariant})
	}
	for _, vals := range groups {
		row := api.Row{Vals: slices.Clone(vals)}
		for _, a := range q.Aggs {
			var l []api.Value
			for i, r := range kid.Rows {
				if slices.CompareFunc(keys.Rows[i].Vals, vals, order) == 0 {
					l = append(l, at(t, kid.Cols, r, a.Expr))
				}
			}
			row.Vals = append(row.Vals, reckoned(a.Op, l))
		}
		made.Rows = append(made.Rows, row)
	}
	return made
}

// reckoned returns an aggregate of all values of a group.
func reckoned(op string, all []api.Value) api.Value {
	var l, ints, different []api.Value
	total := 0
	for _, v := range all {
		if v.Kind == api.KNull {
			continue
		}
		l = append(l, v)
		if v.Kind == api.KInt {
			ints = append(ints, v)
			total += v.Int
		}
		if !slices.ContainsFunc(different, func(w api.Value) bool { return order(v, w) == 0 }) {
			different = append(different, v)
		}
	}
	slices.SortFunc(different, order)
	switch {
	case op == "count":
		return number(len(l))
	case op == "many":
		return number(len(different))
	case op == "sum" && len(ints) > 0 && total <= api.MaxInt && total >= -api.MaxInt:
		return number(total)
	case op == "min" && len(l) > 0:
		return different[0]
	case op == "max" && len(l) > 0:
		return different[len(different)-1]
	}
	return api.Value{}
}
