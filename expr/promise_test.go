package expr_test

import (
	"slices"
	"testing"

	"cirrus/api"
	"cirrus/expr"
)

// equalValues checks that two expressions have the same value for the row.
func equalValues(t *testing.T, vals []api.Value, a, b api.Expr) {
	t.Helper()
	if got, want := evaluated(t, vals, a), evaluated(t, vals, b); got != want {
		t.Errorf("for %v: %s = %s, but %s = %s", vals, form(a), got, form(b), want)
	}
}

// P3.1.
func TestThreeValues(t *testing.T) {
	parts := []api.Expr{constant(api.Value{Kind: api.KTruth, Int: 1}), constant(api.Value{Kind: api.KTruth}), constant(api.Value{}), constant(number(1)), constant(text("true"))}
	d := dice(6)
	for range 30 {
		parts = append(parts, d.deep(api.TTruth, 3))
	}
	vals := d.row()
	for _, a := range parts {
		for _, b := range parts {
			equalValues(t, vals, op("not", op("and", a, b)), op("or", op("not", a), op("not", b)))
			equalValues(t, vals, op("not", op("or", a, b)), op("and", op("not", a), op("not", b)))
			for _, name := range []string{"and", "or"} {
				equalValues(t, vals, op(name, a, b), op(name, b, a))
				for _, c := range parts[:10] {
					equalValues(t, vals, op(name, op(name, a, b), c), op(name, a, op(name, b, c)))
				}
			}
		}
	}
}

// P3.2: Fold preserves the value, for every row.
func TestFoldPreservesValues(t *testing.T) {
	d := dice(7)
	smaller := 0
	for range 3000 {
		x := d.expr()
		folded, e := expr.Fold(x)
		if e != api.OK || !expr.Valid(folded) {
			t.Fatalf("Fold(%s) = %s, %d", form(x), form(folded), e)
		}
		if form(folded) != form(x) {
			smaller++
		}
		if again, e := expr.Fold(folded); !same(again, folded) || e != api.OK {
			t.Errorf("Fold(%s) = %s, %d", form(folded), form(again), e)
		}
		for range 3 {
			equalValues(t, d.row(), x, folded)
		}
		checkFolded(t, folded)
	}
	if smaller < 500 {
		t.Errorf("%d were folded", smaller)
	}
}

// checkFolded checks that no part without columns is anything else than a const.
func checkFolded(t *testing.T, x api.Expr) {
	t.Helper()
	if names, e := expr.Columns(x); len(names) == 0 && x.Op != "const" || e != api.OK {
		t.Errorf("%s is not folded", form(x))
	}
	for _, kid := range x.Kids {
		checkFolded(t, kid)
	}
}

// P3.2: Put of a const for a column preserves the value for every row in which the column has this value.
func TestPutPreservesValues(t *testing.T) {
	d := dice(8)
	for range 3000 {
		x, vals := d.expr(), d.row()
		for i, c := range columns() {
			put, e := expr.Put(x, c.Name, constant(vals[i]))
			if e != api.OK {
				t.Fatalf("Put(%s, %s, %s): %d", form(x), c.Name, shown(vals[i]), e)
			}
			if names, _ := expr.Columns(put); slices.Contains(names, c.Name) {
				t.Errorf("%s has the column %s", form(put), c.Name)
			}
			equalValues(t, vals, x, put)
			other := slices.Clone(vals)
			other[i] = d.value(c.Type)
			if got, want := evaluated(t, other, put), evaluated(t, vals, x); got != want {
				t.Errorf("%s = %s, not %s", form(put), got, want)
			}
		}
	}
}

// Put of an expression for a column has the value that the expression's value in this column gives.
func TestPutOfExpressions(t *testing.T) {
	d := dice(9)
	for range 3000 {
		x, by, vals := d.expr(), d.deep(api.TVariant, 3), d.row()
		put, e := expr.Put(x, "b", by)
		if e != api.OK {
			continue
		}
		given := slices.Clone(vals)
		v, e := expr.Eval(columns(), vals, by)
		if given[1] = v; e != api.OK {
			t.Fatalf("Eval(%s): %d", form(by), e)
		}
		if got, want := evaluated(t, vals, put), evaluated(t, given, x); got != want {
			t.Errorf("%s = %s, not %s", form(put), got, want)
		}
	}
}

// conjunction returns a tree of ands of so many parts, all of them truths or null.
func (d *dice) conjunction(parts int) api.Expr {
	if parts == 1 {
		x := one(d, col("d"), op("not", col("d")), op("lt", col("a"), constant(number(2))), op("eq", col("b"), col("c")), op("null", col("c")), constant(d.value(api.TTruth)))
		return one(d, x, op("or", x, col("d")))
	}
	n := 1 + d.roll(parts-1)
	first := d.conjunction(n)
	return op("and", first, d.conjunction(parts-n))
}

// P3.4: And of Ands is null, 0 or 1 as the expression is; and Ands are the parts that are no ands, from the left to the right.
func TestAndOfAnds(t *testing.T) {
	d := dice(10)
	truths, sizes := map[string]int{}, 0
	for range 5000 {
		x := d.conjunction(1 + d.roll(12))
		if !expr.Valid(x) {
			continue
		}
		parts, e := expr.Ands(x)
		if e != api.OK || slices.ContainsFunc(parts, func(part api.Expr) bool { return part.Op == "and" }) {
			t.Fatalf("Ands(%s) = %s, %d", form(x), forms(parts), e)
		}
		made, e := expr.And(parts...)
		if e == api.ErrSize {
			sizes++
			continue
		}
		if e != api.OK {
			t.Fatalf("And(%s): %d", forms(parts), e)
		}
		for range 3 {
			vals := d.row()
			equalValues(t, vals, x, made)
			truths[evaluated(t, vals, x)]++
			holds, _ := expr.Holds(columns(), vals, x)
			if again, e := expr.Holds(columns(), vals, made); again != holds || e != api.OK {
				t.Errorf("Holds(%s) = %t, %d", form(made), again, e)
			}
		}
	}
	if truths["true"] < 200 || truths["false"] < 200 || truths["null"] < 200 || sizes > 1000 {
		t.Errorf("%v, %d too large", truths, sizes)
	}
}

// P3.5: values of other columns, columns that are not there, and the order of columns are all the same to a value.
func TestNeededColumns(t *testing.T) {
	d := dice(11)
	for range 3000 {
		x, vals := d.expr(), d.row()
		want := evaluated(t, vals, x)
		names, e := expr.Columns(x)
		if e != api.OK || !slices.IsSorted(names) || len(slices.Compact(slices.Clone(names))) != len(names) {
			t.Fatalf("Columns(%s) = %v, %d", form(x), names, e)
		}
		other := d.row()
		cols, needed := []api.Column{{Name: "z", Type: api.TInt}}, []api.Value{{}}
		for i, c := range slices.Backward(columns()) {
			if slices.Contains(names, c.Name) {
				other[i] = vals[i]
				cols, needed = append(cols, c), append(needed, vals[i])
			}
		}
		if got := evaluated(t, other, x); got != want {
			t.Errorf("%s = %s, then %s", form(x), want, got)
		}
		if got, e := expr.Eval(cols, needed, x); shown(got) != want || e != api.OK {
			t.Errorf("%s = %s, then %s, %d", form(x), want, shown(got), e)
		}
		for _, name := range names {
			i := slices.IndexFunc(cols, func(c api.Column) bool { return c.Name == name })
			if e := expr.Check(slices.Delete(slices.Clone(cols), i, i+1), x); e != api.ErrName {
				t.Errorf("Check(%s) without %s: %d", form(x), name, e)
			}
		}
	}
}
