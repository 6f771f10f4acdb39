package bag_test

import (
	"strings"
	"testing"

	"cirrus/api"
	"cirrus/bag"
)

func texts(t *testing.T) map[string]api.Query {
	t.Helper()
	q, u, a, b := scan("t"), scan("u"), col("a"), col("b")
	return map[string]api.Query{
		"(scan t)":                                          q,
		"(scan scan)":                                       scan("scan"),
		"(filter a (scan t))":                               {Op: "filter", Expr: a, Kids: []api.Query{q}},
		"(filter '\"(a \\\" ) [\" (scan t))":                {Op: "filter", Expr: constant(text(`(a " ) [`)), Kids: []api.Query{q}},
		`(filter (has $["x y"][")"] b) (scan t))`:           {Op: "filter", Expr: parsedExpr(t, `(has $["x y"][")"] b)`), Kids: []api.Query{q}},
		"(filter '[1,{\"a b\":[]}] (scan t))":               {Op: "filter", Expr: parsedExpr(t, "'[1,{\"a b\":[]}]"), Kids: []api.Query{q}},
		"(project [(a a)] (scan t))":                        {Op: "project", Cols: []api.Named{{Name: "a", Expr: a}}, Kids: []api.Query{q}},
		"(project [(a b) (b (not a))] (scan t))":            {Op: "project", Cols: []api.Named{{Name: "a", Expr: b}, {Name: "b", Expr: op("not", a)}}, Kids: []api.Query{q}},
		"(project [(a '[]) (b (list))] (scan t))":           {Op: "project", Cols: []api.Named{{Name: "a", Expr: parsedExpr(t, "'[]")}, {Name: "b", Expr: op("list")}}, Kids: []api.Query{q}},
		"(join (eq a b) (scan t) (scan u))":                 {Op: "join", Expr: op("eq", a, b), Kids: []api.Query{q, u}},
		"(left 'true (scan u) (scan t))":                    {Op: "left", Expr: parsedExpr(t, "'true"), Kids: []api.Query{u, q}},
		"(group [(a a)] [(sum s b)] (scan t))":              {Op: "group", Cols: []api.Named{{Name: "a", Expr: a}}, Aggs: []api.Agg{{Name: "s", Op: "sum", Expr: b}}, Kids: []api.Query{q}},
		"(group [] [(min a a) (max b b)] (scan t))":         {Op: "group", Aggs: []api.Agg{{Name: "a", Op: "min", Expr: a}, {Name: "b", Op: "max", Expr: b}}, Kids: []api.Query{q}},
		"(group [(a a) (b b)] [] (scan t))":                 {Op: "group", Cols: []api.Named{{Name: "a", Expr: a}, {Name: "b", Expr: b}}, Kids: []api.Query{q}},
		"(group [] [(count n '\"]\") (many m a)] (scan t))": {Op: "group", Aggs: []api.Agg{{Name: "n", Op: "count", Expr: constant(text("]"))}, {Name: "m", Op: "many", Expr: a}}, Kids: []api.Query{q}},
		"(sort [(down (neg a))] (scan t))":                  {Op: "sort", Keys: []api.Key{{Expr: op("neg", a), Down: true}}, Kids: []api.Query{q}},
		"(sort [(up up) (down down)] (scan t))":             {Op: "sort", Keys: []api.Key{{Expr: col("up")}, {Expr: col("down"), Down: true}}, Kids: []api.Query{q}},
		"(limit 3 (distinct (scan t)))":                     {Op: "limit", N: 3, Kids: []api.Query{{Op: "distinct", Kids: []api.Query{q}}}},
		"(limit 0 (scan t))":                                {Op: "limit", Kids: []api.Query{q}},
		"(limit 20000 (scan t))":                            {Op: "limit", N: 20000, Kids: []api.Query{q}},
		"(union (scan t) (scan u))":                         {Op: "union", Kids: []api.Query{q, u}},
		"(flatten x (get $.a b) (scan t))":                  {Op: "flatten", Name: "x", Expr: parsedExpr(t, "(get $.a b)"), Kids: []api.Query{q}},
		"(union (limit 1 (scan t)) (union (distinct (scan u)) (scan u)))": {Op: "union", Kids: []api.Query{
			{Op: "limit", N: 1, Kids: []api.Query{q}}, {Op: "union", Kids: []api.Query{{Op: "distinct", Kids: []api.Query{u}}, u}}}},
	}
}

func TestText(t *testing.T) {
	for want, q := range texts(t) {
		if got, e := bag.Text(q); got != want || e != api.OK {
			t.Errorf("Text(%v) = %s, %d; not %s", q, got, e, want)
		}
		if got, e := bag.Parse(want); !same(got, q) || e != api.OK {
			t.Errorf("Parse(%s) = %v, %d", want, got, e)
		}
	}
	for _, s := range valid() {
		form, e := bag.Text(s.q)
		if got, err := bag.Parse(form); !same(got, s.q) || e != api.OK || err != api.OK {
			t.Errorf("%s: Text = %s, %d; Parse = %v, %d", s.name, form, e, got, err)
		}
	}
}

func TestParseErrors(t *testing.T) {
	long, many := strings.Repeat("a", api.MaxName+1), 1<<20
	list := []string{
		"", " ", "t", "scan t", "(", ")", "()", "( )", "(())", "((scan t))", "(scan t", "scan t)", "(scan t))", "(scan t) ", " (scan t)", "(scan  t)", "(scan t )", "( scan t)", "(scan\tt)", "(scan t)\n", "(scan t)(scan t)", "(scan t) (scan t)", "(scan t)\x00",
		"(scan)", "(scan )", "(scan T)", "(scan 't)", "(scan \"t\")", "(scan t u)", "(scan t (scan t))", "(scan (scan t))", "(scan " + long + ")", "(Scan t)", "(SCAN t)", "(t)", "(where a (scan t))", "(table t)", "(scanx t)",
		"(filter (scan t))", "(filter a)", "(filter a (scan t)", "(filter  a (scan t))", "(filter a  (scan t))", "(filter a(scan t))", "(filter A (scan t))", "(filter (foo a) (scan t))", "(filter (not a (scan t))", "(filter (not a)) (scan t))", "(filter '1", "(filter '\"a (scan t))", "(filter '[1, 2] (scan t))", "(filter (not  a) (scan t))", "(filter a (scan t) (scan t))", "(filter a b (scan t))", "(filter x a (scan t))", "(filter [(a a)] (scan t))", "(filter a t)",
		"(project (scan t))", "(project [] (scan t))", "(project [ ] (scan t))", "(project [(a a)])", "(project [(a a)] (scan t)", "(project [(a a)](scan t))", "(project[(a a)] (scan t))", "(project [(a a)]  (scan t))", "(project [(a a) ] (scan t))", "(project [ (a a)] (scan t))", "(project [(a a)(b b)] (scan t))", "(project [(a a)  (b b)] (scan t))", "(project [(a a),(b b)] (scan t))", "(project (a a) (scan t))", "(project [a] (scan t))", "(project [(a)] (scan t))", "(project [(a )] (scan t))", "(project [(a a b)] (scan t))", "(project [(a  a)] (scan t))", "(project [(a a )] (scan t))", "(project [( a a)] (scan t))", "(project [(A a)] (scan t))", "(project [( a)] (scan t))", "(project [(a a) (a a)] (scan t))", "(project [(a A)] (scan t))", "(project [(a (b))] (scan t))", "(project [(sum a a)] (scan t))", "(project [(a a)] [] (scan t))", "(project [] [(a a)] (scan t))", "(project [(a a)] (scan t) (scan t))", "(project [(a a) (scan t))", "(project (a a)] (scan t))", "(project [[(a a)]] (scan t))", "(project [(a a", "(project [(a a)", "(project [(a a) ", "(project [", "(project [(", "(project ",
		"(project [(" + long + " a)] (scan t))", "(project [(a a) (b a) (c a) (d a) (e a) (f a) (g a) (h a) (i a)] (scan t))",
		"(join (scan t) (scan t))", "(join a (scan t))", "(join a (scan t) (scan t) (scan t))", "(join a (scan t)(scan t))", "(join (scan t) a (scan t))", "(join (scan t) (scan t) a)", "(left a (scan t))", "(left (scan t) (scan t))", "(join x a (scan t) (scan t))",
		"(group (scan t))", "(group [] [] (scan t))", "(group [(a a)] (scan t))", "(group [(sum s a)] [(a a)] (scan t))", "(group [] [(avg a a)] (scan t))", "(group [] [(a a)] (scan t))", "(group [] [(sum a)] (scan t))", "(group [] [(sum a )] (scan t))", "(group [] [(sum  a a)] (scan t))", "(group [] [(sum a  a)] (scan t))", "(group [] [(sum a a a)] (scan t))", "(group [] [( a a)] (scan t))", "(group [] [(Sum a a)] (scan t))", "(group [] [(s sum a)] (scan t))", "(group [(a a)] [(sum a b)] (scan t))", "(group [] [(sum a a) (min a a)] (scan t))", "(group [][(sum a a)] (scan t))", "(group [(a a)] [] [] (scan t))", "(group [] [(sum A a)] (scan t))", "(group [(a a)] [(sum s b) ] (scan t))", "(group [] [(sum", "(group [] [(sum a", "(group []", "(group [] ",
		"(sort (scan t))", "(sort [] (scan t))", "(sort [(a)] (scan t))", "(sort [(up)] (scan t))", "(sort [(up )] (scan t))", "(sort [(Up a)] (scan t))", "(sort [(asc a)] (scan t))", "(sort [( a)] (scan t))", "(sort [(up a down b)] (scan t))", "(sort [(up a b)] (scan t))", "(sort [(up  a)] (scan t))", "(sort [up a] (scan t))", "(sort [a] (scan t))", "(sort [(a up)] (scan t))", "(sort [(up a)(up b)] (scan t))", "(sort up a (scan t))",
		"(sort [(up a)" + strings.Repeat(" (up a)", api.MaxCols) + "] (scan t))",
		"(limit (scan t))", "(limit -1 (scan t))", "(limit -0 (scan t))", "(limit +1 (scan t))", "(limit 01 (scan t))", "(limit 00 (scan t))", "(limit 1_0 (scan t))", "(limit 0x1 (scan t))", "(limit 1.0 (scan t))", "(limit 20001 (scan t))", "(limit 99999999999999999999 (scan t))", "(limit 18446744073709551617 (scan t))", "(limit '1 (scan t))", "(limit a (scan t))", "(limit  1 (scan t))", "(limit 1  (scan t))", "(limit  (scan t))", "(limit 1)", "(limit 1 1 (scan t))", "(limit 1 (scan t) (scan t))", "(limit 1",
		"(distinct)", "(distinct )", "(distinct  (scan t))", "(distinct t)", "(distinct (scan t) (scan t))", "(distinct a (scan t))", "(distinct 0 (scan t))", "(distinct [] (scan t))", "(distinct(scan t))",
		"(union (scan t))", "(union)", "(union (scan t) (scan t) (scan t))", "(union (scan t)  (scan t))", "(union 'true (scan t) (scan t))", "(union (scan t) (scan T))", "(union (scan T) (scan t))", "(union (scan t) ())",
		"(flatten (scan t))", "(flatten x (scan t))", "(flatten a (scan t))", "(flatten 'null (scan t))", "(flatten X a (scan t))", "(flatten x A (scan t))", "(flatten  x a (scan t))", "(flatten x  a (scan t))", "(flatten x a  (scan t))", "(flatten x y a (scan t))", "(flatten x a)", "(flatten x a (scan t) (scan t))", "(flatten (x a) (scan t))", "(flatten " + long + " a (scan t))", "(flatten  a (scan t))",
		strings.Repeat("(", many), strings.Repeat("(distinct ", many), strings.Repeat(" ", many), strings.Repeat("a", many), "(scan " + strings.Repeat("a", many) + ")", "(limit " + strings.Repeat("1", many) + " (scan t))", "(filter " + strings.Repeat("(", many), "(filter '\"" + strings.Repeat("\\", many), "(filter " + strings.Repeat("a", many) + " (scan t))",
		"(project [(a a)" + strings.Repeat(" (a a)", many/8) + "] (scan t))", "(project [" + strings.Repeat("(", many), "(project [(a " + strings.Repeat("(not ", many), "(sort [(up a)" + strings.Repeat(" (up a)", many/8) + "] (scan t))", "(union" + strings.Repeat(" (scan t)", many) + ")", strings.Repeat("(union (scan t) ", many),
	}
	for _, s := range list {
		if q, e := bag.Parse(s); !isZero(q) || e != api.ErrParse {
			t.Errorf("Parse(%.70q) = %s, %d", s, form(q), e)
		}
	}
}

func TestParseLimits(t *testing.T) {
	nested := func(n int) string { return strings.Repeat("(distinct ", n) + "(scan t)" + strings.Repeat(")", n) }
	list := func(n int) string {
		return "(a0 a)" + " (a1 a) (a2 a) (a3 a) (a4 a) (a5 a) (a6 a) (a7 a) (a8 a)"[:7*(n-1)]
	}
	nots := func(n int) string { return strings.Repeat("(not ", n) + "a" + strings.Repeat(")", n) }
	for s, want := range map[string]api.Errno{
		nested(api.MaxLevel - 1):                                        api.OK,
		nested(api.MaxLevel):                                            api.ErrParse,
		"(union " + nested(4) + " " + nested(5) + ")":                   api.OK,
		"(union " + nested(5) + " " + nested(5) + ")":                   api.ErrParse,
		"(project [" + list(api.MaxCols) + "] (scan t))":                api.OK,
		"(project [" + list(api.MaxCols+1) + "] (scan t))":              api.ErrParse,
		"(group [" + list(api.MaxCols-1) + "] [(sum s a)] (scan t))":    api.OK,
		"(group [" + list(api.MaxCols) + "] [(sum s a)] (scan t))":      api.ErrParse,
		"(sort [(up a)" + strings.Repeat(" (up a)", 7) + "] (scan t))":  api.OK,
		"(scan " + strings.Repeat("a", api.MaxName) + ")":               api.OK,
		"(filter " + nots(11) + " (scan t))":                            api.OK,
		"(filter " + nots(12) + " (scan t))":                            api.ErrParse,
		"(flatten " + strings.Repeat("a", api.MaxName) + " a (scan t))": api.OK,
		"(filter (list" + strings.Repeat(" a", 59) + ") (scan t))":      api.OK,
		"(filter (list" + strings.Repeat(" a", 60) + ") (scan t))":      api.ErrParse,
	} {
		q, e := bag.Parse(s)
		if e != want || e == api.OK && form(q) != s || e != api.OK && !isZero(q) {
			t.Errorf("Parse(%.70s) = %.70s, %d", s, form(q), e)
		}
	}
}

// Two results have memory of their own.
func TestParseMakesNewMemory(t *testing.T) {
	for s := range texts(t) {
		a, b := parsed(t, s), parsed(t, s)
		scribbleQuery(a)
		if form(b) != s {
			t.Errorf("two results share memory: %s, not %s", form(b), s)
		}
	}
}

// P4.4, also for what Text takes apart: see TestText.
func TestTextAndBack(t *testing.T) {
	d := dice(1)
	different := map[string]bool{}
	for range 1500 {
		q := d.query(t, d.tables(), 6)
		s, e := bag.Text(q)
		if e != api.OK {
			t.Fatalf("Text(%v): %d", q, e)
		}
		if got, e := bag.Parse(s); !same(got, q) || e != api.OK {
			t.Fatalf("Parse(%s) = %v, %d; not %v", s, got, e, q)
		}
		different[s] = true
	}
	if len(different) < 1000 {
		t.Errorf("%d different ones", len(different))
	}
}

// FuzzParse checks, for any text, that what is parsed is a valid query, whose textual form is the text.
func FuzzParse(f *testing.F) {
	for _, s := range valid() {
		f.Add(form(s.q))
	}
	f.Add(`(group [(a (get $["x ("] b))] [(sum s '"\"]") (min t a)] (scan t))`)
	f.Add("(sort [(up a) (down (neg a))] (limit 20 (union (scan t) (scan u))))")
	f.Add("(project [(a a)  (b b)] (scan t))")
	f.Fuzz(func(t *testing.T, s string) {
		q, e := bag.Parse(s)
		if e != api.OK {
			if e != api.ErrParse || !isZero(q) {
				t.Fatalf("Parse(%q) = %v, %d", s, q, e)
			}
			return
		}
		if !bag.Valid(q) || form(q) != s {
			t.Fatalf("Parse(%q) = %v", s, q)
		}
	})
}
