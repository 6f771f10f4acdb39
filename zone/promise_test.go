package zone_test

import (
	"testing"

	"cirrus/api"
	"cirrus/expr"
)

// P7.1. The value for each row is possible.
func TestSound(t *testing.T) {
	d := dice(4)
	verdicts := map[string]int{}
	for range 20000 {
		r, x := d.rows(), d.expr()
		verdicts[sound(t, r, headOfRows(t, r), x)]++
	}
	if verdicts["never"] < 1000 || verdicts["always"] < 1000 {
		t.Errorf("the verdicts: %v", verdicts)
	}
}

// sound fails the test if x has for one of the rows a value that is not possible by the head, and returns the verdict.
func sound(t testing.TB, r api.Rows, h api.Head, x api.Expr) string {
	t.Helper()
	span, truths, verdict := spanOf(t, h, x), zoneOf(t, h, x), verdictOf(t, h, x)
	for _, row := range r.Rows {
		v, e := expr.Eval(r.Cols, row.Vals, x)
		if e != api.OK {
			t.Fatalf("Eval(%s): %d", exprForm(x), e)
		}
		if !among(v, span) {
			t.Fatalf("%s is %s, and by %s only %s", exprForm(x), form(v), shownHead(h), shownSpan(span))
		}
		if z := truthOf(v); both(z, truths) != truths {
			t.Fatalf("%s is %s, and by %s only %s", exprForm(x), form(v), shownHead(h), shownZone(truths))
		}
		if holds := form(v) == "true"; holds && verdict == "never" || !holds && verdict == "always" {
			t.Fatalf("%s is %s, and by %s %s", exprForm(x), form(v), shownHead(h), verdict)
		}
	}
	return verdict
}

// P7.2. A comparison of an int column with an int has exactly the truths that it has between the bounds.
func TestExactWithConst(t *testing.T) {
	cols := []api.Column{{Name: "a", Type: api.TInt}}
	for from := -3; from <= 3; from++ {
		for to := from; to <= 3; to++ {
			h := api.Head{Cols: cols, Rows: 2, First: 1, Last: 2, Stats: []api.Stat{{Rows: 2, Min: number(from), Max: number(to)}}}
			for n := -4; n <= 4; n++ {
				for _, name := range []string{"eq", "lt", "le", "gt", "ge"} {
					x := op(name, col("a"), constant(number(n)))
					var want api.Zone
					for i := from; i <= to; i++ {
						v, _ := expr.Eval(cols, []api.Value{number(i)}, x)
						want = both(want, truthOf(v))
					}
					if got := zoneOf(t, h, x); got != want {
						t.Errorf("Zone(%s, %s) = %s, not %s", shownHead(h), exprForm(x), shownZone(got), shownZone(want))
					}
				}
			}
		}
	}
}

// within reports whether all that is possible by a is possible by b.
func within(a, b api.Span) bool {
	if a.Null && !b.Null || a.Some && !b.Some {
		return false
	}
	if !a.Some || !b.Known {
		return true
	}
	return a.Known && order(b.Min, a.Min) <= 0 && order(a.Max, b.Max) <= 0
}

// P7.3. With a wider head all that was possible is.
func TestWider(t *testing.T) {
	d := dice(5)
	for i := range 20000 {
		h, x := d.head(), d.expr()
		if i%2 == 0 {
			h = headOfRows(t, d.rows())
		}
		w := d.wider(h)
		if a, b := spanOf(t, h, x), spanOf(t, w, x); !within(a, b) {
			t.Fatalf("Of(%s, %s) = %s, but wider %s: %s", shownHead(h), exprForm(x), shownSpan(a), shownHead(w), shownSpan(b))
		}
		if a, b := zoneOf(t, h, x), zoneOf(t, w, x); both(a, b) != b {
			t.Fatalf("Zone(%s, %s) = %s, but wider %s: %s", shownHead(h), exprForm(x), shownZone(a), shownHead(w), shownZone(b))
		}
	}
}

// P7.4. What cannot be null is never so exactly if its not always is.
func TestNot(t *testing.T) {
	d := dice(6)
	seen := map[string]int{}
	for range 20000 {
		h, x := d.head(), d.expr()
		if zoneOf(t, h, x).Null {
			continue
		}
		not := op("not", x)
		if !expr.Valid(not) {
			continue
		}
		a, b := verdictOf(t, h, x), verdictOf(t, h, not)
		seen[a+" "+b]++
	}
	if len(seen) != 3 || seen["never always"] < 100 || seen["always never"] < 100 || seen["perhaps perhaps"] < 100 {
		t.Errorf("the verdicts of conditions and of their nots: %v", seen)
	}
}

// Whatever is possible always includes something.
func TestNothingImpossible(t *testing.T) {
	d := dice(7)
	for range 5000 {
		h, x := d.head(), d.expr()
		if s := spanOf(t, h, x); !s.Null && !s.Some {
			t.Errorf("Of(%s, %s) is nothing", shownHead(h), exprForm(x))
		}
		if z := zoneOf(t, h, x); z == (api.Zone{}) {
			t.Errorf("Zone(%s, %s) is nothing", shownHead(h), exprForm(x))
		}
	}
}

// Nothing but the expression decides how long it takes: also the deepest one is looked at once.
func TestDeepest(t *testing.T) {
	h := headOf(t, "a:truth 1 [false,true]")
	x := col("a")
	for range api.MaxLevel - 1 {
		x = op("not", x)
	}
	for range 2000 {
		if got := shownZone(zoneOf(t, h, x)); got != "TFN" {
			t.Fatalf("Zone = %s", got)
		}
	}
}

// FuzzSound looks for expressions that have values for rows which their heads rule out.
func FuzzSound(f *testing.F) {
	d := dice(8)
	for range 200 {
		f.Add(exprForm(d.expr()))
	}
	var all []api.Rows
	for range 20 {
		all = append(all, d.rows())
	}
	f.Fuzz(func(t *testing.T, s string) {
		x, e := expr.Parse(s)
		if e != api.OK || expr.Check(columns(), x) != api.OK {
			return
		}
		for _, r := range all {
			sound(t, r, headOfRows(t, r), x)
		}
	})
}
