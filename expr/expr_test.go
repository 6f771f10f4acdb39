package expr_test

import (
	"slices"
	"strings"
	"testing"

	"cirrus/api"
	"cirrus/expr"
)

func TestValid(t *testing.T) {
	a := col("a")
	for name, kids := range counts() {
		for _, n := range kids {
			if !expr.Valid(withKids(name, n)) {
				t.Errorf("%s with %d kids is not valid", name, n)
			}
		}
	}
	for name, x := range map[string]api.Expr{
		"a long name":               col(strings.Repeat("z", api.MaxName)),
		"cast to truth":             cast("truth", a),
		"cast to int":               cast("int", a),
		"cast to text":              cast("text", a),
		"const of an object":        constant(api.Value{Kind: api.KObject, Keys: []string{""}, Items: []api.Value{number(1)}}),
		"const null":                constant(api.Value{}),
		"get of the longest path":   at("get", make([]api.Step, api.MaxPath), a),
		"put at a path":             at("put", []api.Step{{Index: -1, Key: "A b"}, {Index: api.MaxIndex}}, a, a),
		"the greatest depth":        nested(api.MaxLevel-1, a),
		"that depth at the end":     op("and", a, nested(api.MaxLevel-2, a)),
		"the most nodes":            wide(api.MaxExpr - 1),
		"the most nodes below":      op("and", wide(29), wide(28)),
		"the most kids of in":       op("in", slices.Repeat([]api.Expr{a}, 59)...),
		"the most kids of first":    op("first", slices.Repeat([]api.Expr{a}, 59)...),
		"empty slices are as nil":   {Op: "not", Val: api.Value{Items: make([]api.Value, 0, 3), Keys: make([]string, 0, 3)}, Path: make([]api.Step, 0, 3), Kids: []api.Expr{a}},
		"a list without kids":       {Op: "list", Kids: make([]api.Expr, 0, 3)},
		"more nodes in the consts":  op("list", slices.Repeat([]api.Expr{constant(api.Value{Kind: api.KList, Items: make([]api.Value, 59)})}, 59)...),
		"deeper than values can be": op("list", op("list", op("list", op("list", op("list", op("list", op("list", op("list")))))))),
	} {
		if !expr.Valid(x) {
			t.Errorf("%s: not valid", name)
		}
	}
	for _, s := range invalid() {
		if expr.Valid(s.x) {
			t.Errorf("%s: valid", s.name)
		}
	}
}

func TestCheck(t *testing.T) {
	for s, want := range map[string]api.Errno{
		"a":                           api.OK,
		"d":                           api.OK,
		"'null":                       api.OK,
		"(list)":                      api.OK,
		"(and a (or b (not c)))":      api.OK,
		"(if 'false e 'true)":         api.ErrName,
		"e":                           api.ErrName,
		"aa":                          api.ErrName,
		"(list a b c d e)":            api.ErrName,
		"(list e a b c d)":            api.ErrName,
		"(add a (neg (neg (neg x))))": api.ErrName,
		"(get $.x a)":                 api.OK,
		"(cast int d)":                api.OK,
		"'\"e\"":                      api.OK,
	} {
		if e := expr.Check(columns(), parsed(t, s)); e != want {
			t.Errorf("Check(%s) = %d", s, e)
		}
	}
	var most []api.Column
	for _, name := range []string{"h", "g", "f", "e", "d", "c", "b", "a"} {
		most = append(most, api.Column{Name: name, Type: api.TVariant})
	}
	if e := expr.Check(most, col("a")); e != api.OK {
		t.Errorf("Check with %d columns: %d", api.MaxCols, e)
	}
	if e := expr.Check([]api.Column{{Name: strings.Repeat("a", api.MaxName), Type: api.TText}}, col("a")); e != api.ErrName {
		t.Errorf("Check with another column: %d", e)
	}
}

func TestColumns(t *testing.T) {
	for s, want := range map[string]string{
		"a":                                   "a",
		"'\"a\"":                              "",
		"(list)":                              "",
		"(cast text 'null)":                   "",
		"(get $.x y)":                         "y",
		"(list b a b aa a_ a1 (neg b))":       "a a1 a_ aa b",
		"(if (eq c 'true) (put $.d z y) c)":   "c y z",
		"(and (and col const) (or null int))": "col const int null",
	} {
		got, e := expr.Columns(parsed(t, s))
		if strings.Join(got, " ") != want || e != api.OK {
			t.Errorf("Columns(%s) = %v, %d", s, got, e)
		}
	}
}

// What is not valid is refused by every function (R2), with zero values (R3); what contains itself is not followed without end (R1).
func TestInvalidExpressions(t *testing.T) {
	a, vals := col("a"), make([]api.Value, 4)
	for _, s := range invalid() {
		is := func(what string, e api.Errno, zero bool) {
			t.Helper()
			if e != api.ErrForm || !zero {
				t.Errorf("%s of %s: %d, zero values: %t", what, s.name, e, zero)
			}
		}
		is("Check", expr.Check(columns(), s.x), true)
		v, e := expr.Eval(columns(), vals, s.x)
		is("Eval", e, shown(v) == "null")
		holds, e := expr.Holds(columns(), vals, s.x)
		is("Holds", e, !holds)
		names, e := expr.Columns(s.x)
		is("Columns", e, len(names) == 0)
		made, e := expr.Put(s.x, "a", a)
		is("Put", e, isZero(made))
		made, e = expr.Put(a, "b", s.x)
		is("Put by it", e, isZero(made))
		made, e = expr.Fold(s.x)
		is("Fold", e, isZero(made))
		l, e := expr.Ands(s.x)
		is("Ands", e, len(l) == 0)
		form, e := expr.Text(s.x)
		is("Text", e, form == "")
		for _, l := range [][]api.Expr{{s.x}, {s.x, a}, {a, s.x}, append(slices.Repeat([]api.Expr{a}, 100), s.x)} {
			made, e = expr.And(l...)
			is("And", e, isZero(made))
		}
	}
}

// An expression that is not valid, values and columns that are not come before names that are missing.
func TestInvalidRows(t *testing.T) {
	for _, cols := range badColumns() {
		vals := make([]api.Value, len(cols))
		for _, x := range []api.Expr{col("a"), col("missing"), constant(number(1))} {
			if e := expr.Check(cols, x); e != api.ErrForm {
				t.Errorf("Check over %v: %d", cols, e)
			}
			if v, e := expr.Eval(cols, vals, x); e != api.ErrForm || shown(v) != "null" {
				t.Errorf("Eval over %v = %s, %d", cols, shown(v), e)
			}
			if ok, e := expr.Holds(cols, vals, x); e != api.ErrForm || ok {
				t.Errorf("Holds over %v = %t, %d", cols, ok, e)
			}
		}
	}
	null, yes := api.Value{}, api.Value{Kind: api.KTruth, Int: 1}
	for _, vals := range [][]api.Value{
		nil, {null}, {null, null, null}, {null, null, null, null, null},
		{yes, null, null, null}, {text("1"), null, null, null}, {null, null, number(1), null}, {null, null, null, number(1)}, {null, null, null, text("true")},
		{{Kind: api.KList}, null, null, null}, {null, null, {Kind: api.KObject}, null},
		{null, {Kind: 9}, null, null}, {null, {Int: 1}, null, null}, {null, endless(), null, null}, {number(api.MaxInt + 1), null, null, null}, {null, null, null, {Kind: api.KTruth, Int: 2}},
	} {
		for _, x := range []api.Expr{constant(yes), col("missing")} {
			if v, e := expr.Eval(columns(), vals, x); e != api.ErrForm || shown(v) != "null" {
				t.Errorf("Eval for %v = %s, %d", vals, shown(v), e)
			}
			if ok, e := expr.Holds(columns(), vals, x); e != api.ErrForm || ok {
				t.Errorf("Holds for %v = %t, %d", vals, ok, e)
			}
		}
	}
}
