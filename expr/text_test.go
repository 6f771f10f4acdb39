package expr_test

import (
	"strings"
	"testing"

	"cirrus/api"
	"cirrus/expr"
)

func TestText(t *testing.T) {
	a, b, one := col("a"), col("b"), constant(number(1))
	x := []api.Step{{Index: -1, Key: "x"}}
	for want, e := range map[string]api.Expr{
		"a":                                a,
		"null":                             col("null"),
		"a_9":                              col("a_9"),
		"'1":                               one,
		"'-1":                              constant(number(-1)),
		"'null":                            constant(api.Value{}),
		"'true":                            constant(api.Value{Kind: api.KTruth, Int: 1}),
		`'"a"`:                             constant(text("a")),
		`'"(a ) \"' \\"`:                   constant(text(`(a ) "' \`)),
		`'"\\\\\")"`:                       constant(text(`\\")`)),
		`'{"a b":[1,")"]}`:                 constant(api.Value{Kind: api.KObject, Keys: []string{"a b"}, Items: []api.Value{{Kind: api.KList, Items: []api.Value{number(1), text(")")}}}}),
		"'[]":                              constant(api.Value{Kind: api.KList}),
		"(list)":                           op("list"),
		"(list a)":                         op("list", a),
		`(list '" ")`:                      op("list", constant(text(" "))),
		"(first a b '1 a)":                 op("first", a, b, one, a),
		"(not a)":                          op("not", a),
		"(null null)":                      op("null", col("null")),
		"(and (gt a '1) (or a b))":         op("and", op("gt", a, one), op("or", a, b)),
		"(if (ge a '1) a (neg a))":         op("if", op("ge", a, one), a, op("neg", a)),
		"(slice a '1 b)":                   op("slice", a, one, b),
		"(in a b '1)":                      op("in", a, b, one),
		"(get $ a)":                        at("get", nil, a),
		"(get $.x a)":                      at("get", x, a),
		"(has $[0] (get $.x a))":           at("has", []api.Step{{}}, at("get", x, a)),
		`(put $.x["y z"][99]["\")"] a '1)`: at("put", []api.Step{x[0], {Index: -1, Key: "y z"}, {Index: 99}, {Index: -1, Key: `")`}}, a, one),
		"(cast int a)":                     cast("int", a),
		"(cast truth 'null)":               cast("truth", constant(api.Value{})),
		"(cast text (cast int int))":       cast("text", cast("int", col("int"))),
	} {
		if got, err := expr.Text(e); got != want || err != api.OK {
			t.Errorf("Text(%v) = %s, %d; not %s", e, got, err, want)
		}
		if got, err := expr.Parse(want); !same(got, e) || err != api.OK {
			t.Errorf("Parse(%s) = %v, %d", want, got, err)
		}
	}
}

func TestParseErrors(t *testing.T) {
	long := strings.Repeat("a", api.MaxName+1)
	for _, s := range []string{
		"", " ", "A", "1", "_", "a ", " a", "a b", "a)", "(a", "a'", "ä", "\x00", "\xff", "a\n", `"a"`, "$", "$.a", "-1", "true)", long,
		"'", "'01", "'-0", "'+1", "' 1", "'1 ", "'x", "''1", "'1'", "'a", "'\"a", "'\"a\"b", `'"a\"`, "'[", "'[1", "'[1, 2]", "'[ ]", "'[1,2] ", "'{\"a\" :1}", `'{"b":1,"a":2}`, `'{"a":1,"a":1}`, "'1000000000001", "'nulls", "'null)", "'(list)", "'\"ä\"", "'\"" + strings.Repeat("a", 101) + "\"", "'[[[[[[[]]]]]]]",
		"(", ")", "()", "( )", "(())", "((not a))", "(not a", "not a)", "(not a))", "(not  a)", "(not a )", "( not a)", "(not\ta)", "(not(a))", "(not (a))", "(not a) ", " (not a)", "(not a)b", "(not a)(not a)", "(not a) a", "(not)", "(not )", "(not a b)", "(and a)", "(and a b c)", "(and a  b)", "(if a b)", "(list )", "(list a,b)", "(list  )", "(first)", "(first )", "(in a)", "(in)",
		"(foo a)", "(NOT a)", "(Not a)", "(a)", "(a b)", "(col a)", "(col)", "(col )", "(const '1)", "(const 1)", "(const)", "('1)", "(not 1)", "(not A)", "(not $.a)", "(not \"a\")", "(add a 'x)", "(add a '1))", "(not '\"a)", "(not '[1, 2])", "(not '{\"b\":1,\"a\":2})", "(not " + long + ")",
		"(get a)", "(get $)", "(get $ )", "(get  $ a)", "(get $  a)", "(get a $)", "(get $.A a)", "(get $.a.a.a.a.a.a.a a)", "(get $[100] a)", "(get $[01] a)", "(get $[\"a\"] a)", "(get $[\"A\" ] a)", "(get $[\"A] a)", "(get $.a a b)", "(get .a a)", "(get $.a)", "(has)", "(has $.a a b)", "(put $.a a)", "(put a b)", "(put $ a b c)", "(not $ a)", "(list $ a)", "(get '1 a)", "(get $.a $.b a)",
		"(cast)", "(cast )", "(cast a)", "(cast int)", "(cast int )", "(cast date a)", "(cast Int a)", "(cast  int a)", "(cast int  a)", "(cast null a)", "(cast list a)", "(cast a int)", "(cast int a b)", "(cast 'int a)", "(cast int int a)", "(cast (int) a)", "(kind int a)", "(cast \"int\" a)", "(cast $ int a)",
		"(and a (or b c)", "(and a (or b (not c))", "(and (or a b) c))", "(and (foo a) b)", "(and a b)\x00", "(not a)\n",
		strings.Repeat("(", 1<<20), strings.Repeat("(not ", 1<<20), strings.Repeat("'", 1<<20), strings.Repeat("a", 1<<20), strings.Repeat(" ", 1<<20), "(list" + strings.Repeat(" a", 1<<20) + ")", "'" + strings.Repeat("[", 1<<20), "(get $" + strings.Repeat(".a", 1<<20) + " a)", "(get $[\"" + strings.Repeat(" )\\", 1<<20), "'\"" + strings.Repeat(" )", 1<<20), "(cast " + strings.Repeat("int", 1<<20) + " a)", "(list" + strings.Repeat(" (list", 1<<20),
	} {
		if x, e := expr.Parse(s); !isZero(x) || e != api.ErrParse {
			t.Errorf("Parse(%.60q) = %s, %d", s, form(x), e)
		}
	}
}

func TestParseLimits(t *testing.T) {
	nested := func(n int, s string) string { return strings.Repeat("(not ", n) + s + strings.Repeat(")", n) }
	wide := func(n int) string { return "(list" + strings.Repeat(" a", n) + ")" }
	for s, want := range map[string]api.Errno{
		nested(11, "a"):        api.OK,
		nested(12, "a"):        api.ErrParse,
		nested(11, "(list)"):   api.OK,
		nested(11, "(list a)"): api.ErrParse,
		wide(59):               api.OK,
		wide(60):               api.ErrParse,
		"(and " + wide(28) + " " + wide(29) + ")":                api.OK,
		"(and " + wide(29) + " " + wide(29) + ")":                api.ErrParse,
		strings.Repeat("a", api.MaxName):                         api.OK,
		"(list" + strings.Repeat(" '"+nulls(59), 59) + ")":       api.OK,
		"(get $" + strings.Repeat("[99]", api.MaxPath) + " a)":   api.OK,
		"(get $" + strings.Repeat("[99]", api.MaxPath+1) + " a)": api.ErrParse,
	} {
		x, e := expr.Parse(s)
		if e != want || e == api.OK && form(x) != s || e != api.OK && !isZero(x) {
			t.Errorf("Parse(%.60s) = %.60s, %d", s, form(x), e)
		}
	}
}

// Two results have memory of their own.
func TestParseMakesNewMemory(t *testing.T) {
	const s = `(and (has $.a[1] b) (in c '{"a":[1]} '2))`
	a, b := parsed(t, s), parsed(t, s)
	scribbleExpr(a)
	if form(b) != s {
		t.Errorf("two results share memory: %v", b)
	}
}

// P3.3.
func TestTextAndBack(t *testing.T) {
	d := dice(5)
	different := map[string]bool{}
	for range 5000 {
		x := d.expr()
		s, e := expr.Text(x)
		if e != api.OK {
			t.Fatalf("Text(%v): %d", x, e)
		}
		if got, e := expr.Parse(s); !same(got, x) || e != api.OK {
			t.Fatalf("Parse(%s) = %v, %d; not %v", s, got, e, x)
		}
		different[s] = true
	}
	if len(different) < 3000 {
		t.Errorf("%d different ones", len(different))
	}
}

// FuzzParse checks, for any text, that what is parsed is a valid expression, whose textual form is the text.
func FuzzParse(f *testing.F) {
	for s := range cases() {
		f.Add(s)
	}
	f.Add(`(and (gt a '1) (has $.x[2]["y z"] b))`)
	f.Add(`'{"a b":[1,")"],"\"\\":null}`)
	f.Add("(cast date a)")
	f.Add("(list  a)")
	f.Fuzz(func(t *testing.T, s string) {
		x, e := expr.Parse(s)
		if e != api.OK {
			if e != api.ErrParse || !isZero(x) {
				t.Fatalf("Parse(%q) = %v, %d", s, x, e)
			}
			return
		}
		if !expr.Valid(x) || form(x) != s {
			t.Fatalf("Parse(%q) = %v", s, x)
		}
	})
}
