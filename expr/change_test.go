package expr_test

import (
	"slices"
	"strings"
	"testing"

	"cirrus/api"
	"cirrus/expr"
)

func TestPut(t *testing.T) {
	for _, c := range []struct{ x, name, by, want string }{
		{"a", "a", "b", "b"},
		{"a", "a", "'[1]", "'[1]"},
		{"a", "b", "c", "a"},
		{"'1", "a", "b", "'1"},
		{"'\"a\"", "a", "b", "'\"a\""},
		{"(list)", "a", "b", "(list)"},
		{"(add a (neg a))", "a", "(neg b)", "(add (neg b) (neg (neg b)))"},
		{"(add a (neg a))", "a", "(mul a a)", "(add (mul a a) (neg (mul a a)))"},
		{"(list a aa b a)", "a", "aa", "(list aa aa b aa)"},
		{"(get $.a a)", "a", "b", "(get $.a b)"},
		{"(put $.a a (has $[1] a))", "a", "(cast text c)", "(put $.a (cast text c) (has $[1] (cast text c)))"},
		{"(cast int int)", "int", "'true", "(cast int 'true)"},
		{"(null null)", "null", "'null", "(null 'null)"},
		{"(if a b c)", "z", "a", "(if a b c)"},
	} {
		got, e := expr.Put(parsed(t, c.x), c.name, parsed(t, c.by))
		if form(got) != c.want || e != api.OK {
			t.Errorf("Put(%s, %s, %s) = %s, %d", c.x, c.name, c.by, form(got), e)
		}
	}
}

func TestPutErrors(t *testing.T) {
	a := col("a")
	for _, name := range []string{"", "A", "1", "a b", "_", strings.Repeat("a", api.MaxName+1)} {
		if x, e := expr.Put(a, name, a); !isZero(x) || e != api.ErrForm {
			t.Errorf("Put at %q = %s, %d", name, form(x), e)
		}
	}
	for _, c := range []struct {
		x, by api.Expr
		e     api.Errno
	}{
		{nested(5, a), nested(6, a), api.OK},
		{nested(6, a), nested(6, a), api.ErrSize},
		{nested(11, a), constant(number(1)), api.OK},
		{nested(11, a), op("list"), api.OK},
		{nested(11, a), nested(1, a), api.ErrSize},
		{wide(58), op("not", col("b")), api.ErrSize},
		{op("list", a, wide(1)), wide(27), api.OK},
		{op("and", a, a), wide(28), api.OK},
		{op("and", a, a), wide(29), api.ErrSize},
		{op("and", col("b"), a), wide(57), api.OK},
		{op("and", col("b"), a), wide(58), api.ErrSize},
		{op("and", col("b"), col("b")), wide(59), api.OK},
		{wide(59), wide(59), api.ErrSize},
	} {
		got, e := expr.Put(c.x, "a", c.by)
		if e != c.e || e == api.OK && !expr.Valid(got) || e != api.OK && !isZero(got) {
			t.Errorf("Put(%s, a, %s) = %s, %d", form(c.x), form(c.by), form(got), e)
		}
	}
}

func TestFold(t *testing.T) {
	for s, want := range map[string]string{
		"a":                                  "a",
		"'1":                                 "'1",
		"(list)":                             "'[]",
		"(add '1 '2)":                        "'3",
		"(add a '2)":                         "(add a '2)",
		"(add (add '1 '2) (mul a (neg '2)))": "(add '3 (mul a '-2))",
		"(div '1 '0)":                        "'null",
		"(and 'false a)":                     "(and 'false a)",
		"(if (lt '1 '2) a b)":                "(if 'true a b)",
		"(list a (list '1 (list)) (get $.x '{}))":          "(list a '[1,[]] 'null)",
		"(put $.y a (put $.x 'null '1))":                   `(put $.y a '{"x":1})`,
		"(cast text (cast int '\"7\"))":                    `'"7"`,
		"(and (and a (gt b '1)) (or a (lt '1 '2)))":        "(and (and a (gt b '1)) (or a 'true))",
		"(in a '1 (neg '1) (has $ 'null))":                 "(in a '1 '-1 'true)",
		"(list (list (list (list (list (list (list)))))))": "'null",
	} {
		got, e := expr.Fold(parsed(t, s))
		if form(got) != want || e != api.OK {
			t.Errorf("Fold(%s) = %s, %d", s, form(got), e)
		}
	}
}

func TestAnd(t *testing.T) {
	for want, l := range map[string][]string{
		"'true":                             nil,
		"a":                                 {"a"},
		"'1":                                {"'1"},
		"(and a b)":                         {"a", "b"},
		"(and (and a b) c)":                 {"a", "b", "c"},
		"(and (and (and a b) c) d)":         {"a", "b", "c", "d"},
		"(and (and a b) (and c (and d e)))": {"a", "b", "(and c (and d e))"},
		"(and (or a b) (not a))":            {"(or a b)", "(not a)"},
		"(and a a)":                         {"a", "a"},
	} {
		var parts []api.Expr
		for _, s := range l {
			parts = append(parts, parsed(t, s))
		}
		got, e := expr.And(parts...)
		if form(got) != want || e != api.OK {
			t.Errorf("And(%v) = %s, %d", l, form(got), e)
		}
	}
	if got, _ := expr.And(); !same(got, constant(api.Value{Kind: api.KTruth, Int: 1})) {
		t.Errorf("And() = %v", got)
	}
}

func TestAndErrors(t *testing.T) {
	a := col("a")
	many := func(n int) []api.Expr { return slices.Repeat([]api.Expr{a}, n) }
	for _, c := range []struct {
		l []api.Expr
		e api.Errno
	}{
		{many(12), api.OK},
		{many(13), api.ErrSize},
		{many(100000), api.ErrSize},
		{[]api.Expr{nested(10, a), a}, api.OK},
		{[]api.Expr{nested(11, a), a}, api.ErrSize},
		{[]api.Expr{a, nested(10, a)}, api.OK},
		{[]api.Expr{a, nested(11, a)}, api.ErrSize},
		{[]api.Expr{nested(11, a)}, api.OK},
		{[]api.Expr{nested(9, a), a, nested(10, a)}, api.OK},
		{[]api.Expr{nested(10, a), a, a}, api.ErrSize},
		{[]api.Expr{wide(28), wide(29)}, api.OK},
		{[]api.Expr{wide(29), wide(29)}, api.ErrSize},
		{[]api.Expr{wide(59)}, api.OK},
		{[]api.Expr{wide(59), a}, api.ErrSize},
	} {
		got, e := expr.And(c.l...)
		if e != c.e || e == api.OK && !expr.Valid(got) || e != api.OK && !isZero(got) {
			t.Errorf("And(%.99s ..) = %s, %d", forms(c.l), form(got), e)
		}
	}
}

func TestAnds(t *testing.T) {
	for s, want := range map[string]string{
		"a":                 "a",
		"'true":             "'true",
		"(or a (and b c))":  "(or a (and b c))",
		"(not (and a b))":   "(not (and a b))",
		"(and a b)":         "a; b",
		"(and (and a b) c)": "a; b; c",
		"(and a (and b c))": "a; b; c",
		"(and (and a (or b c)) (and (and d a) b))": "a; (or b c); d; a; b",
		"(and (and a a) (not (and a a)))":          "a; a; (not (and a a))",
	} {
		got, e := expr.Ands(parsed(t, s))
		if forms(got) != want || e != api.OK {
			t.Errorf("Ands(%s) = %s, %d", s, forms(got), e)
		}
	}
}

// R5: arguments are left alone, and results share no memory with them, with one another, or in themselves.
func TestChangesMakeNewMemory(t *testing.T) {
	const whole, part = `(and (and a (has $.x[1] a)) (in a '{"k":[1]} (list (list '[2]) b)))`, `(get $.y '{"l":[3]})`
	for name, call := range map[string]func(x, by api.Expr) ([]api.Expr, api.Errno){
		"Put":      func(x, by api.Expr) ([]api.Expr, api.Errno) { return alone(expr.Put(x, "a", by)) },
		"Put none": func(x, by api.Expr) ([]api.Expr, api.Errno) { return alone(expr.Put(x, "z", by)) },
		"Put all":  func(x, by api.Expr) ([]api.Expr, api.Errno) { return alone(expr.Put(col("a"), "a", by)) },
		"Fold":     func(x, by api.Expr) ([]api.Expr, api.Errno) { return alone(expr.Fold(x)) },
		"Fold all": func(x, by api.Expr) ([]api.Expr, api.Errno) { return alone(expr.Fold(x.Kids[1].Kids[1])) },
		"And":      func(x, by api.Expr) ([]api.Expr, api.Errno) { return alone(expr.And(x, by, by, x)) },
		"And one":  func(x, by api.Expr) ([]api.Expr, api.Errno) { return alone(expr.And(x)) },
		"Ands":     func(x, by api.Expr) ([]api.Expr, api.Errno) { return expr.Ands(x) },
	} {
		x, by := parsed(t, whole), parsed(t, part)
		got, e := call(x, by)
		if e != api.OK {
			t.Fatalf("%s: %d", name, e)
		}
		if form(x) != whole || form(by) != part {
			t.Errorf("%s changes its arguments", name)
		}
		want := forms(got)
		other, _ := call(x, by)
		scribbleList(got)
		if form(x) != whole || form(by) != part {
			t.Fatalf("%s: the result has memory of the arguments", name)
		}
		scribbleExpr(x)
		scribbleExpr(by)
		if forms(other) != want {
			t.Errorf("%s: the arguments have memory of the result", name)
		}
		checkApart(t, name, other)
	}
}

func alone(x api.Expr, e api.Errno) ([]api.Expr, api.Errno) { return []api.Expr{x}, e }

// checkApart checks that none of the expressions, and none of their kids, has memory of another one.
func checkApart(t *testing.T, name string, l []api.Expr) {
	t.Helper()
	for i, x := range l {
		before := forms(l[:i]) + forms(l[i+1:])
		checkApart(t, name, x.Kids)
		scribbleExpr(x)
		if forms(l[:i])+forms(l[i+1:]) != before {
			t.Errorf("%s: parts of the result share memory", name)
		}
	}
}

// A slice of names is new, too.
func TestColumnsMakesNewMemory(t *testing.T) {
	x := parsed(t, "(list b a)")
	got, _ := expr.Columns(x)
	other, _ := expr.Columns(x)
	got[0], got[1] = "scribble", "scribble"
	if form(x) != "(list b a)" || !slices.Equal(other, []string{"a", "b"}) {
		t.Errorf("%s, %v", form(x), other)
	}
}
