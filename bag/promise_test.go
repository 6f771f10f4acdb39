package bag_test

import (
	"slices"
	"testing"

	"cirrus/api"
	"cirrus/bag"
)

func filter(x api.Expr, kid api.Query) api.Query {
	return api.Query{Op: "filter", Expr: x, Kids: []api.Query{kid}}
}

func two(op string, a, b api.Query) api.Query {
	return api.Query{Op: op, Kids: []api.Query{a, b}}
}

// equalQueries checks that two queries yield the same; what is too large is left out.
func equalQueries(t *testing.T, tables []api.Table, a, b api.Query) {
	t.Helper()
	r, e := bag.Run(a, tables)
	s, f := bag.Run(b, tables)
	if e == api.OK && f == api.OK && !bag.Same(r, s) {
		t.Fatalf("over %v: %s = %s, but %s = %s", tables, form(a), lists(r), form(b), lists(s))
	}
	if e != api.OK && e != api.ErrForm || f != api.OK && f != api.ErrForm {
		t.Fatalf("%s: %d; %s: %d", form(a), e, form(b), f)
	}
}

// columns returns the columns that q yields.
func columns(t *testing.T, q api.Query, tables []api.Table) []api.Column {
	t.Helper()
	cols, e := bag.Check(q, tables)
	if e != api.OK {
		t.Fatalf("Check(%s): %d", form(q), e)
	}
	return cols
}

// P4.1.
func TestPushed(t *testing.T) {
	d := dice(4)
	for range 1500 {
		tables := d.tables()
		q := d.query(t, tables, 3)
		cols := columns(t, q, tables)
		x, y := d.condition(cols, 3), d.condition(cols, 3)
		equalQueries(t, tables, filter(x, filter(y, q)), filter(op("and", y, x), q))
		equalQueries(t, tables, filter(x, filter(y, q)), filter(op("and", x, y), q))
		other := filter(y, q)
		equalQueries(t, tables, filter(x, two("union", q, other)), two("union", filter(x, q), filter(x, other)))
		join := api.Query{Op: "join", Kids: []api.Query{q}}
		d.join(&join, tables, cols, 2)
		if _, e := bag.Check(join, tables); e != api.OK {
			continue
		}
		pushed := join
		pushed.Kids = []api.Query{filter(x, q), join.Kids[1]}
		equalQueries(t, tables, filter(x, join), pushed)
	}
}

// P4.2: a filter of a sort.
func TestFilterAndSort(t *testing.T) {
	d := dice(5)
	for range 2000 {
		tables := d.tables()
		q := d.query(t, tables, 3)
		cols := columns(t, q, tables)
		x := d.condition(cols, 3)
		sort := api.Query{Op: "sort", Keys: []api.Key{{Expr: d.expr(cols, 2), Down: d.roll(2) == 0}, {Expr: d.expr(cols, 2)}}, Kids: []api.Query{q}}
		pushed := sort
		pushed.Kids = []api.Query{filter(x, q)}
		equalQueries(t, tables, filter(x, sort), pushed)
	}
}

// P4.2: Sort of a join with its kids exchanged.
func TestJoinExchanged(t *testing.T) {
	d := dice(6)
	compared := 0
	for range 3000 {
		tables := d.tables()
		q := d.query(t, tables, 3)
		join := api.Query{Op: "join", Kids: []api.Query{q}}
		d.join(&join, tables, columns(t, q, tables), 2)
		cols, e := bag.Check(join, tables)
		if e != api.OK {
			continue
		}
		exchanged := join
		exchanged.Kids = []api.Query{join.Kids[1], join.Kids[0]}
		var list []api.Named
		for _, c := range cols {
			list = append(list, api.Named{Name: c.Name, Expr: col(c.Name)})
		}
		join = api.Query{Op: "project", Cols: list, Kids: []api.Query{join}}
		exchanged = api.Query{Op: "project", Cols: list, Kids: []api.Query{exchanged}}
		if !bag.Valid(join) {
			continue
		}
		a, b := ran(t, join, tables), ran(t, exchanged, tables)
		if len(a.Rows) > api.MaxRows {
			continue
		}
		r, e := bag.Sort(a)
		s, f := bag.Sort(b)
		if !bag.Same(r, s) || e != api.OK || f != api.OK {
			t.Fatalf("%s: %s, exchanged %s", form(join), lists(r), lists(s))
		}
		if len(r.Rows) > 1 {
			compared++
		}
	}
	if compared < 500 {
		t.Errorf("%d joins with rows", compared)
	}
}

// P4.3.
func TestSumsAddUp(t *testing.T) {
	d := dice(7)
	added := 0
	for range 2000 {
		tables := d.tables()
		q := d.query(t, tables, 3)
		cols := columns(t, q, tables)
		x := d.expr(cols, 2)
		whole := api.Query{Op: "group", Aggs: []api.Agg{{Name: "s1", Op: "sum", Expr: x}, {Name: "n1", Op: "count", Expr: x}}, Kids: []api.Query{q}}
		parts := whole
		parts.Cols = []api.Named{{Name: "g1", Expr: d.expr(cols, 2)}, {Name: "g2", Expr: d.expr(cols, 1)}}
		all := ran(t, whole, tables)
		if len(all.Rows) != 1 {
			t.Fatalf("%s has %d rows", form(whole), len(all.Rows))
		}
		sum, count, null := 0, 0, false
		for _, r := range ran(t, parts, tables).Rows {
			null = null || r.Vals[2].Kind == api.KNull
			sum += r.Vals[2].Int
			count += r.Vals[3].Int
		}
		total := all.Rows[0].Vals
		if total[1].Int != count || total[0].Kind == api.KInt && !null && total[0].Int != sum {
			t.Fatalf("%s: sum %d, count %d; not %s", form(parts), sum, count, list(total))
		}
		if total[0].Kind == api.KInt && !null && sum != 0 {
			added++
		}
	}
	if added < 200 {
		t.Errorf("%d sums that are not 0", added)
	}
}

// isSubsequence reports whether the rows are among those of all, in their order.
func isSubsequence(rows, all []api.Row) bool {
	for _, row := range rows {
		i := slices.IndexFunc(all, func(other api.Row) bool { return list(row.Vals) == list(other.Vals) })
		if i < 0 {
			return false
		}
		all = all[i+1:]
	}
	return true
}

// P4.5.
func TestSubsequences(t *testing.T) {
	d := dice(8)
	for range 2000 {
		tables := d.tables()
		q := d.query(t, tables, 3)
		all := ran(t, q, tables)
		for _, part := range []api.Query{
			filter(d.condition(all.Cols, 3), q),
			{Op: "limit", N: d.roll(10), Kids: []api.Query{q}},
			{Op: "distinct", Kids: []api.Query{q}},
		} {
			r := ran(t, part, tables)
			if !isSubsequence(r.Rows, all.Rows) || !slices.Equal(r.Cols, all.Cols) {
				t.Fatalf("%s = %s, of %s", form(part), lists(r), lists(all))
			}
		}
	}
}

// P4.6.
func TestLeft(t *testing.T) {
	d := dice(9)
	alone := 0
	for range 2000 {
		tables := d.tables()
		q := d.query(t, tables, 3)
		join := api.Query{Op: "join", Kids: []api.Query{q}}
		first := ran(t, q, tables)
		d.join(&join, tables, first.Cols, 2)
		if _, e := bag.Check(join, tables); e != api.OK {
			continue
		}
		left := join
		left.Op = "left"
		r, s := ran(t, join, tables), ran(t, left, tables)
		if !isSubsequence(r.Rows, s.Rows) || !slices.Equal(r.Cols, s.Cols) {
			t.Fatalf("%s = %s, left %s", form(join), lists(r), lists(s))
		}
		cut := api.Rows{}
		for _, row := range s.Rows {
			cut.Rows = append(cut.Rows, api.Row{Vals: row.Vals[:len(first.Cols)]})
		}
		if !isSubsequence(first.Rows, cut.Rows) {
			t.Fatalf("%s = %s, first kid %s", form(left), lists(s), lists(first))
		}
		if len(s.Rows) > len(r.Rows) {
			alone++
		}
	}
	if alone < 300 {
		t.Errorf("%d with rows without a match", alone)
	}
}
