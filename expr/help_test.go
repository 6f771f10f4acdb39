package expr_test

import (
	"slices"
	"strings"
	"testing"

	"cirrus/api"
	"cirrus/expr"
	"cirrus/value"
	"cirrus/variant"
)

func col(name string) api.Expr { return api.Expr{Op: "col", Name: name} }

func constant(v api.Value) api.Expr { return api.Expr{Op: "const", Val: v} }

func op(op string, kids ...api.Expr) api.Expr { return api.Expr{Op: op, Kids: kids} }

func cast(name string, kid api.Expr) api.Expr {
	return api.Expr{Op: "cast", Name: name, Kids: []api.Expr{kid}}
}

func at(op string, p []api.Step, kids ...api.Expr) api.Expr {
	return api.Expr{Op: op, Path: p, Kids: kids}
}

func number(n int) api.Value { return api.Value{Kind: api.KInt, Int: n} }

func text(s string) api.Value { return api.Value{Kind: api.KText, Text: s} }

// val returns the value that s denotes.
func val(t *testing.T, s string) api.Value {
	t.Helper()
	v, e := value.Parse(s)
	if e != api.OK {
		t.Fatalf("value.Parse(%s): %d", s, e)
	}
	return v
}

func path(t *testing.T, s string) []api.Step {
	t.Helper()
	p, e := variant.ParsePath(s)
	if e != api.OK {
		t.Fatalf("variant.ParsePath(%s): %d", s, e)
	}
	return p
}

func parsed(t *testing.T, s string) api.Expr {
	t.Helper()
	x, e := expr.Parse(s)
	if e != api.OK {
		t.Fatalf("Parse(%s): %d", s, e)
	}
	return x
}

// shown returns the textual form of a value; of one that is not valid, that it is not.
func shown(v api.Value) string {
	s, e := value.Text(v)
	if e != api.OK {
		return "not valid"
	}
	return s
}

// form returns the textual form of an expression; of one that is not valid, that it is not.
func form(x api.Expr) string {
	s, e := expr.Text(x)
	if e != api.OK {
		return "not valid"
	}
	return s
}

func forms(l []api.Expr) string {
	var s []string
	for _, x := range l {
		s = append(s, form(x))
	}
	return strings.Join(s, "; ")
}

// same reports whether all fields of two expressions are the same; a nil slice and an empty one are.
func same(a, b api.Expr) bool {
	c, e := value.Compare(a.Val, b.Val)
	return a.Op == b.Op && a.Name == b.Name && c == 0 && e == api.OK && slices.Equal(a.Path, b.Path) && slices.EqualFunc(a.Kids, b.Kids, same)
}

// isZero reports whether the expression is the zero value.
func isZero(x api.Expr) bool {
	return x.Op == "" && x.Name == "" && shown(x.Val) == "null" && len(x.Path) == 0 && len(x.Kids) == 0
}

// columns has a column of each type: a int, b variant, c text, d truth.
func columns() []api.Column {
	return []api.Column{{Name: "a", Type: api.TInt}, {Name: "b", Type: api.TVariant}, {Name: "c", Type: api.TText}, {Name: "d", Type: api.TTruth}}
}

// evaluated returns the text of the value of x for the row with these values in columns().
func evaluated(t *testing.T, vals []api.Value, x api.Expr) string {
	t.Helper()
	v, e := expr.Eval(columns(), vals, x)
	if e != api.OK {
		t.Fatalf("Eval(%s): %d", form(x), e)
	}
	return shown(v)
}

// scribble writes over all the memory of v, what lies behind the ends of slices included.
func scribble(v api.Value) {
	for i := range v.Items[:cap(v.Items)] {
		scribble(v.Items[:cap(v.Items)][i])
		v.Items[:cap(v.Items)][i] = number(-77)
	}
	for i := range v.Keys[:cap(v.Keys)] {
		v.Keys[:cap(v.Keys)][i] = "scribble"
	}
}

func scribbleExpr(x api.Expr) {
	scribble(x.Val)
	for i := range x.Path[:cap(x.Path)] {
		x.Path[:cap(x.Path)][i] = api.Step{Index: -1, Key: "scribble"}
	}
	scribbleList(x.Kids)
}

func scribbleList(l []api.Expr) {
	for i := range l[:cap(l)] {
		scribbleExpr(l[:cap(l)][i])
		l[:cap(l)][i] = col("scribble")
	}
}

// nested returns not in one another around x, so many.
func nested(n int, x api.Expr) api.Expr {
	for range n {
		x = op("not", x)
	}
	return x
}

// wide returns a list of so many cols.
func wide(n int) api.Expr {
	return op("list", slices.Repeat([]api.Expr{col("a")}, n)...)
}

// ring returns an expression that contains itself.
func ring() api.Expr {
	kids := make([]api.Expr, 1)
	kids[0] = op("not", kids...)
	kids[0].Kids = kids
	return kids[0]
}

// bush returns an expression that contains itself often.
func bush() api.Expr {
	kids := make([]api.Expr, 3)
	for i := range kids {
		kids[i] = api.Expr{Op: "list", Kids: kids}
	}
	return kids[0]
}

// endless returns a value that contains itself.
func endless() api.Value {
	l := make([]api.Value, 1)
	l[0] = api.Value{Kind: api.KList, Items: l}
	return l[0]
}

type sample struct {
	name string
	x    api.Expr
}

// invalid lists expressions each of which breaks one rule.
func invalid() []sample {
	a, null, root := col("a"), constant(api.Value{}), []api.Step{{Index: -1, Key: "a"}}
	l := []sample{
		{"nothing", api.Expr{}},
		{"no operation", op("foo", a)},
		{"upper case", op("NOT", a)},
		{"a blank", op("not ", a)},
		{"col without a name", col("")},
		{"col of no word", col("A")},
		{"col of a long name", col(strings.Repeat("a", api.MaxName+1))},
		{"col with a kid", api.Expr{Op: "col", Name: "a", Kids: []api.Expr{a}}},
		{"col with a value", api.Expr{Op: "col", Name: "a", Val: number(1)}},
		{"col with a part of a value", api.Expr{Op: "col", Name: "a", Val: api.Value{Int: 1}}},
		{"col with a path", api.Expr{Op: "col", Name: "a", Path: root}},
		{"const with a name", api.Expr{Op: "const", Name: "a"}},
		{"const with a path", api.Expr{Op: "const", Path: root}},
		{"const with a kid", api.Expr{Op: "const", Kids: []api.Expr{a}}},
		{"const of an int beyond", constant(number(api.MaxInt + 1))},
		{"const of no kind", constant(api.Value{Kind: 6})},
		{"const of a value in itself", constant(endless())},
		{"not with a name", api.Expr{Op: "not", Name: "a", Kids: []api.Expr{a}}},
		{"not with a value", api.Expr{Op: "not", Val: text(""), Kids: []api.Expr{a}}},
		{"not with no value", api.Expr{Op: "not", Val: api.Value{Text: "a"}, Kids: []api.Expr{a}}},
		{"not with a path", api.Expr{Op: "not", Path: root, Kids: []api.Expr{a}}},
		{"list with a path", api.Expr{Op: "list", Path: root}},
		{"list with a name", api.Expr{Op: "list", Name: "a"}},
		{"get with a name", api.Expr{Op: "get", Name: "a", Path: root, Kids: []api.Expr{a}}},
		{"get with a value", api.Expr{Op: "get", Val: number(0), Path: root, Kids: []api.Expr{a}}},
		{"get of no path", at("get", []api.Step{{Index: -2}}, a)},
		{"has of a long path", at("has", make([]api.Step, api.MaxPath+1), a)},
		{"put of no path", at("put", []api.Step{{Index: 0, Key: "a"}}, a, a)},
		{"cast to nothing", cast("", a)},
		{"cast to a list", cast("list", a)},
		{"cast to null", cast("null", a)},
		{"cast to a word", cast("a", a)},
		{"cast in upper case", cast("Int", a)},
		{"cast with a path", api.Expr{Op: "cast", Name: "int", Path: root, Kids: []api.Expr{a}}},
		{"cast with a value", api.Expr{Op: "cast", Name: "int", Val: number(0), Kids: []api.Expr{a}}},
		{"a kid that is nothing", op("not", api.Expr{})},
		{"an invalid first kid", op("and", op("not"), null)},
		{"an invalid last kid", op("list", a, null, col("1"))},
		{"an invalid one far below", nested(11, col("A"))},
		{"too deep", nested(api.MaxLevel, a)},
		{"too deep at the end", op("and", a, nested(api.MaxLevel-1, a))},
		{"too many nodes", wide(api.MaxExpr)},
		{"too many nodes below", op("and", wide(29), wide(29))},
		{"a not in itself", ring()},
		{"a list in itself", bush()},
		{"very deep", nested(100000, a)},
		{"very wide", wide(100000)},
	}
	for name, kids := range counts() {
		for n := range 6 {
			if !slices.Contains(kids, n) {
				l = append(l, sample{name + " with another number of kids", withKids(name, n)})
			}
		}
	}
	return l
}

// counts returns for each operation how many kids it has, of numbers up to 5.
func counts() map[string][]int {
	return map[string][]int{
		"col": {0}, "const": {0}, "get": {1}, "has": {1}, "not": {1}, "and": {2}, "or": {2},
		"eq": {2}, "ne": {2}, "lt": {2}, "le": {2}, "gt": {2}, "ge": {2}, "same": {2}, "null": {1},
		"add": {2}, "sub": {2}, "mul": {2}, "div": {2}, "mod": {2}, "neg": {1},
		"cat": {2}, "len": {1}, "lower": {1}, "slice": {3}, "like": {2}, "if": {3}, "first": {1, 2, 3, 4, 5},
		"in": {2, 3, 4, 5}, "list": {0, 1, 2, 3, 4, 5}, "put": {2}, "kind": {1}, "cast": {1},
	}
}

// withKids returns an expression with so many kids, valid if the operation can have so many.
func withKids(name string, n int) api.Expr {
	x := op(name, slices.Repeat([]api.Expr{col("a")}, n)...)
	switch name {
	case "col":
		x.Name = "a"
	case "cast":
		x.Name = "int"
	}
	return x
}

// badColumns lists columns each of which break one rule.
func badColumns() [][]api.Column {
	var many []api.Column
	for i := range api.MaxCols + 1 {
		many = append(many, api.Column{Name: "a" + string(rune('0'+i)), Type: api.TInt})
	}
	return [][]api.Column{
		nil, many, {{Name: "a"}}, {{Name: "a", Type: 5}}, {{Name: "a", Type: -1}}, {{Type: api.TInt}}, {{Name: "A", Type: api.TInt}},
		{{Name: "a", Type: api.TInt}, {Name: "a", Type: api.TInt}},
		{{Name: "a", Type: api.TInt}, {Name: "b", Type: api.TInt}, {Name: "a", Type: api.TText}},
		{{Name: "a", Type: api.TInt}, {Name: "b c", Type: api.TInt}},
		{{Name: strings.Repeat("a", api.MaxName+1), Type: api.TVariant}},
	}
}
