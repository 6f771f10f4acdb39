package bag_test

import (
	"slices"
	"testing"

	"cirrus/api"
	"cirrus/bag"
)

// dice returns numbers that look like random ones and are always the same.
type dice uint64

func (d *dice) roll(n int) int {
	*d = *d*6364136223846793005 + 1442695040888963407
	return int(uint64(*d)>>33) % n
}

// one returns one element of l.
func one[T any](d *dice, l ...T) T { return l[d.roll(len(l))] }

// value returns a value that fits a column of that type, out of few different ones, so that equal ones occur often.
func (d *dice) value(typ int) api.Value {
	if d.roll(8) == 0 {
		return api.Value{}
	}
	switch typ {
	case api.TTruth:
		return api.Value{Kind: api.KTruth, Int: d.roll(2)}
	case api.TInt:
		return number(one(d, 0, 1, 1, 2, 2, -1))
	case api.TText:
		return text(one(d, "a", "b", "B"))
	}
	switch d.roll(7) {
	case 0:
		v := api.Value{Kind: api.KList}
		for range d.roll(3) {
			v.Items = append(v.Items, d.value(api.TTruth+d.roll(3)))
		}
		return v
	case 1:
		v := api.Value{Kind: api.KObject}
		for _, key := range []string{"k", "l m"} {
			if d.roll(2) == 0 {
				v.Keys = append(v.Keys, key)
				v.Items = append(v.Items, d.value(api.TInt))
			}
		}
		return v
	}
	return d.value(one(d, api.TTruth, api.TInt, api.TInt, api.TInt, api.TText))
}

// tables returns tables with few rows; t and v have the same names of columns.
func (d *dice) tables() []api.Table {
	var tables []api.Table
	for _, s := range [][2]string{{"t", "a:int b:variant c:text"}, {"u", "d:int e:int"}, {"v", "a:int b:int c:variant"}, {"w", "f:truth"}} {
		made := api.Table{Name: s[0], Rows: api.Rows{Cols: typed(s[1])}}
		for range one(d, 0, 2, 3, 3, 4, 4, 5, 5, 6, 7) {
			row := api.Row{Id: d.roll(5)}
			for _, c := range made.Rows.Cols {
				row.Vals = append(row.Vals, d.value(c.Type))
			}
			made.Rows.Rows = append(made.Rows.Rows, row)
		}
		tables = append(tables, made)
	}
	return tables
}

// expr returns an expression over these columns.
func (d *dice) expr(cols []api.Column, depth int) api.Expr {
	if depth == 1 || d.roll(3) > 0 {
		if d.roll(4) == 0 {
			return constant(d.value(one(d, api.TInt, api.TVariant)))
		}
		return col(one(d, cols...).Name)
	}
	a, b := d.expr(cols, depth-1), d.expr(cols, depth-1)
	switch d.roll(6) {
	case 0:
		return op(one(d, "neg", "len", "kind", "null", "not"), a)
	case 1:
		return api.Expr{Op: "get", Path: []api.Step{one(d, api.Step{}, api.Step{Index: -1, Key: "k"}, api.Step{Index: -1, Key: "l m"})}, Kids: []api.Expr{a}}
	case 2:
		return op(one(d, "add", "sub", "mul", "mod"), a, b)
	case 3:
		return op(one(d, "list", "first", "cat"), a, b)
	}
	return d.condition(cols, depth)
}

// condition returns an expression whose value is a truth or null.
func (d *dice) condition(cols []api.Column, depth int) api.Expr {
	if depth > 1 && d.roll(4) == 0 {
		return op(one(d, "and", "or"), d.condition(cols, depth-1), d.condition(cols, depth-1))
	}
	a, b := d.expr(cols, max(1, depth-1)), d.expr(cols, max(1, depth-1))
	switch d.roll(6) {
	case 0:
		return one(d, constant(d.value(api.TTruth)), op("not", a), op("null", a))
	case 1, 2, 3:
		return op("not", one(d, op("null", a), op("same", a, b)))
	}
	return op(one(d, "eq", "ne", "ne", "le", "ge", "same"), a, b)
}

// query returns a query that can be checked over the tables, with at most so many levels.
func (d *dice) query(t *testing.T, tables []api.Table, levels int) api.Query {
	t.Helper()
	for {
		q := d.part(tables, levels)
		if _, e := bag.Check(q, tables); e == api.OK {
			return q
		}
	}
}

// part returns a query that can mostly be checked, and mostly yields rows.
func (d *dice) part(tables []api.Table, levels int) api.Query {
	if levels == 1 || d.roll(6) == 0 {
		return scan(one(d, tables...).Name)
	}
	kid := d.part(tables, levels-1)
	cols, e := bag.Check(kid, tables)
	if e != api.OK {
		return kid
	}
	q := api.Query{Op: one(d, "filter", "project", "join", "left", "join", "left", "group", "sort", "limit", "distinct", "union", "flatten"), Kids: []api.Query{kid}}
	switch q.Op {
	case "filter":
		q.Expr = d.condition(cols, 3)
	case "project":
		q.Cols = d.named(cols, cols[d.roll(len(cols)):])
	case "join", "left":
		d.join(&q, tables, cols, levels)
	case "group":
		d.group(&q, cols)
	case "sort":
		for range 1 + d.roll(2) {
			q.Keys = append(q.Keys, api.Key{Expr: d.expr(cols, 2), Down: d.roll(2) == 0})
		}
	case "limit":
		q.N = d.roll(12)
	case "union":
		other := d.part(tables, levels-1)
		if others, e := bag.Check(other, tables); e == api.OK {
			other = api.Query{Op: "project", Cols: d.named(others, cols), Kids: []api.Query{other}}
		}
		q.Kids = append(q.Kids, one(d, kid, other))
	case "flatten":
		q.Name, q.Expr = d.unused(cols), d.expr(cols, 2)
		if d.roll(2) == 0 {
			q.Expr = op("list", q.Expr, d.expr(cols, 2))
		}
	}
	// Of what yields no rows, little can be seen.
	if r, _ := bag.Run(q, tables); len(r.Rows) == 0 && d.roll(4) > 0 {
		return kid
	}
	return q
}

// named returns an expression over cols for each of the names.
func (d *dice) named(cols, names []api.Column) []api.Named {
	var l []api.Named
	for _, c := range names {
		l = append(l, api.Named{Name: c.Name, Expr: d.expr(cols, 1+d.roll(2))})
	}
	return l
}

// unused returns a name that none of the columns has.
func (d *dice) unused(cols []api.Column) string {
	for {
		name := string(rune('g'+d.roll(15))) + one(d, "", "_1")
		if !slices.ContainsFunc(cols, func(c api.Column) bool { return c.Name == name }) {
			return name
		}
	}
}

// join adds a second kid, and a condition, which often wants something to be equal.
func (d *dice) join(q *api.Query, tables []api.Table, cols []api.Column, levels int) {
	other := d.part(tables, levels-1)
	others, e := bag.Check(other, tables)
	if e != api.OK {
		return
	}
	all := slices.Clone(cols)
	p := api.Query{Op: "project", Kids: []api.Query{other}}
	for _, c := range others[:min(len(others), 2)] {
		made := api.Column{Name: d.unused(all), Type: api.TVariant}
		p.Cols = append(p.Cols, api.Named{Name: made.Name, Expr: col(c.Name)})
		all = append(all, made)
	}
	q.Kids = append(q.Kids, p)
	q.Expr = d.condition(all, 3)
	if second := all[len(cols):]; d.roll(2) == 0 {
		q.Expr = op("eq", d.expr(cols, 1+d.roll(2)), d.expr(second, one(d, 1, 1, 1, 2)))
		if d.roll(2) == 0 {
			q.Expr = op("eq", q.Expr.Kids[1], q.Expr.Kids[0])
		}
		if d.roll(2) == 0 {
			q.Expr = op("and", q.Expr, d.condition(all, 2))
		}
	}
}

func (d *dice) group(q *api.Query, cols []api.Column) {
	q.Cols = d.named(cols, cols[:d.roll(min(len(cols), 3)+1)])
	all := slices.Clone(cols)
	for range 1 + d.roll(3) {
		name := d.unused(all)
		all = append(all, api.Column{Name: name})
		q.Aggs = append(q.Aggs, api.Agg{Name: name, Op: one(d, "count", "many", "min", "max", "sum"), Expr: d.expr(cols, 1+d.roll(2))})
	}
}

// What the tests of promises range over: that every Op is there, and that it is not all empty.
func TestDice(t *testing.T) {
	d := dice(2)
	ops := map[string]int{}
	var count func(q api.Query)
	count = func(q api.Query) {
		ops[q.Op]++
		for _, kid := range q.Kids {
			count(kid)
		}
	}
	empty, matched, different := 0, 0, map[string]bool{}
	for range 3000 {
		tables := d.tables()
		q := d.query(t, tables, 4)
		count(q)
		r := ran(t, q, tables)
		if len(r.Rows) == 0 {
			empty++
		}
		if q.Op == "join" && len(r.Rows) > 0 {
			matched++
		}
		different[lists(r)] = true
	}
	for name := range whole() {
		if ops[name] < 100 {
			t.Errorf("%s occurs %d times", name, ops[name])
		}
	}
	if empty > 1500 || matched < 100 || len(different) < 1000 {
		t.Errorf("%d empty, %d joins with rows, %d different results", empty, matched, len(different))
	}
}
