package bag_test

import (
	"slices"
	"strings"
	"testing"

	"cirrus/api"
	"cirrus/bag"
	"cirrus/expr"
	"cirrus/value"
)

func number(n int) api.Value { return api.Value{Kind: api.KInt, Int: n} }

func text(s string) api.Value { return api.Value{Kind: api.KText, Text: s} }

func col(name string) api.Expr { return api.Expr{Op: "col", Name: name} }

func constant(v api.Value) api.Expr { return api.Expr{Op: "const", Val: v} }

func op(op string, kids ...api.Expr) api.Expr { return api.Expr{Op: op, Kids: kids} }

func parsed(t *testing.T, s string) api.Query {
	t.Helper()
	q, e := bag.Parse(s)
	if e != api.OK {
		t.Fatalf("Parse(%s): %d", s, e)
	}
	return q
}

func parsedExpr(t *testing.T, s string) api.Expr {
	t.Helper()
	x, e := expr.Parse(s)
	if e != api.OK {
		t.Fatalf("expr.Parse(%s): %d", s, e)
	}
	return x
}

// typed returns columns of which each is written as its name, a colon and its type.
func typed(s string) []api.Column {
	types := map[string]int{"truth": api.TTruth, "int": api.TInt, "text": api.TText, "variant": api.TVariant}
	var cols []api.Column
	for _, f := range strings.Fields(s) {
		name, typ, _ := strings.Cut(f, ":")
		cols = append(cols, api.Column{Name: name, Type: types[typ]})
	}
	return cols
}

// table returns a table with columns written as for typed, and with rows written as lists, which are numbered from 11.
func table(t *testing.T, name, cols string, rows ...string) api.Table {
	t.Helper()
	made := api.Table{Name: name, Rows: api.Rows{Cols: typed(cols)}}
	for i, s := range rows {
		v, e := value.Parse(s)
		if e != api.OK {
			t.Fatalf("value.Parse(%s): %d", s, e)
		}
		made.Rows.Rows = append(made.Rows.Rows, api.Row{Id: 11 + i, Vals: v.Items})
	}
	return made
}

// counting returns a table with one column, which has the ints from 0.
func counting(name, column string, rows int) api.Table {
	r := api.Rows{Cols: []api.Column{{Name: column, Type: api.TInt}}}
	for i := range rows {
		r.Rows = append(r.Rows, api.Row{Id: i, Vals: []api.Value{number(i)}})
	}
	return api.Table{Name: name, Rows: r}
}

// shown returns the columns as they are written for typed.
func shown(cols []api.Column) string {
	types := []string{"?", "truth", "int", "text", "variant"}
	var l []string
	for _, c := range cols {
		l = append(l, c.Name+":"+types[c.Type])
	}
	return strings.Join(l, " ")
}

// list returns the values as the textual form of a list, also if that is too large to be a value.
func list(vals []api.Value) string {
	var l []string
	for _, v := range vals {
		s, e := value.Text(v)
		if e != api.OK {
			s = "not valid"
		}
		l = append(l, s)
	}
	return "[" + strings.Join(l, ",") + "]"
}

// lists returns the values of the rows, one list after another.
func lists(r api.Rows) string {
	s := ""
	for _, row := range r.Rows {
		s += list(row.Vals)
	}
	return s
}

// ran returns what a query yields over the tables.
func ran(t *testing.T, q api.Query, tables []api.Table) api.Rows {
	t.Helper()
	r, e := bag.Run(q, tables)
	if e != api.OK {
		t.Fatalf("Run(%s): %d", form(q), e)
	}
	return r
}

// form returns the textual form of a query; of one that is not valid, that it is not.
func form(q api.Query) string {
	s, e := bag.Text(q)
	if e != api.OK {
		return "not valid"
	}
	return s
}

// isZero reports whether q is the zero value.
func isZero(q api.Query) bool { return same(q, api.Query{}) }

// same reports whether all fields of two queries are the same; a nil slice and an empty one are.
func same(a, b api.Query) bool {
	return a.Op == b.Op && a.Name == b.Name && a.N == b.N && sameExpr(a.Expr, b.Expr) && slices.EqualFunc(a.Kids, b.Kids, same) &&
		slices.EqualFunc(a.Cols, b.Cols, func(c, d api.Named) bool { return c.Name == d.Name && sameExpr(c.Expr, d.Expr) }) &&
		slices.EqualFunc(a.Aggs, b.Aggs, func(c, d api.Agg) bool {
			return c.Name == d.Name && c.Op == d.Op && sameExpr(c.Expr, d.Expr)
		}) &&
		slices.EqualFunc(a.Keys, b.Keys, func(c, d api.Key) bool { return c.Down == d.Down && sameExpr(c.Expr, d.Expr) })
}

func sameExpr(a, b api.Expr) bool {
	c, e := value.Compare(a.Val, b.Val)
	return a.Op == b.Op && a.Name == b.Name && c == 0 && e == api.OK && slices.Equal(a.Path, b.Path) && slices.EqualFunc(a.Kids, b.Kids, sameExpr)
}

// noRows reports whether r is the zero value.
func noRows(r api.Rows) bool { return len(r.Cols) == 0 && len(r.Rows) == 0 }

// scribble writes over all the memory of v, what lies behind the ends of slices included.
func scribble(v api.Value) {
	scribbleAll(v.Items)
	for i := range v.Keys[:cap(v.Keys)] {
		v.Keys[:cap(v.Keys)][i] = "scribble"
	}
}

func scribbleAll(l []api.Value) {
	l = l[:cap(l)]
	for i := range l {
		scribble(l[i])
		l[i] = number(-77)
	}
}

func scribbleExpr(x api.Expr) {
	scribble(x.Val)
	for i := range x.Path[:cap(x.Path)] {
		x.Path[:cap(x.Path)][i] = api.Step{Index: -1, Key: "scribble"}
	}
	kids := x.Kids[:cap(x.Kids)]
	for i := range kids {
		scribbleExpr(kids[i])
		kids[i] = col("scribble")
	}
}

func scribbleRows(r api.Rows) {
	rows := r.Rows[:cap(r.Rows)]
	for i := range rows {
		scribbleAll(rows[i].Vals)
		rows[i] = api.Row{Id: -77}
	}
	cols := r.Cols[:cap(r.Cols)]
	for i := range cols {
		cols[i] = api.Column{Name: "scribble"}
	}
}

func scribbleQuery(q api.Query) {
	scribbleExpr(q.Expr)
	for i := range q.Cols[:cap(q.Cols)] {
		scribbleExpr(q.Cols[:cap(q.Cols)][i].Expr)
		q.Cols[:cap(q.Cols)][i] = api.Named{Name: "scribble"}
	}
	for i := range q.Aggs[:cap(q.Aggs)] {
		scribbleExpr(q.Aggs[:cap(q.Aggs)][i].Expr)
		q.Aggs[:cap(q.Aggs)][i] = api.Agg{Name: "scribble"}
	}
	for i := range q.Keys[:cap(q.Keys)] {
		scribbleExpr(q.Keys[:cap(q.Keys)][i].Expr)
		q.Keys[:cap(q.Keys)][i] = api.Key{}
	}
	for i := range q.Kids[:cap(q.Kids)] {
		scribbleQuery(q.Kids[:cap(q.Kids)][i])
		q.Kids[:cap(q.Kids)][i] = api.Query{Op: "scribble"}
	}
}
