package bag

import (
	"slices"
	"strings"

	"cirrus/api"
	"cirrus/expr"
	"cirrus/value"
)

// formula is an expression over rows with given columns, and what its value depends on.
type formula struct {
	expr api.Expr
	cols []api.Column // those that it needs
	at   []int        // where they are among all columns
}

// formulaOf returns the formula of x, which is valid and whose columns are among cols.
func formulaOf(x api.Expr, cols []api.Column) formula {
	f := formula{expr: x}
	names, _ := expr.Columns(x)
	if len(names) == 0 {
		// An expression is evaluated over one column at least.
		names = []string{cols[0].Name}
	}
	for _, name := range names {
		i := position(cols, name)
		f.cols = append(f.cols, cols[i])
		f.at = append(f.at, i)
	}
	return f
}

func formulasOf(l []api.Expr, cols []api.Column) []formula {
	var made []formula
	for _, x := range l {
		made = append(made, formulaOf(x, cols))
	}
	return made
}

func (f formula) value(vals []api.Value) api.Value {
	v, _ := expr.Eval(f.cols, picked(vals, f.at), f.expr)
	return v
}

func (f formula) holds(vals []api.Value) bool {
	ok, _ := expr.Holds(f.cols, picked(vals, f.at), f.expr)
	return ok
}

// valuesOf returns the values of the formulas for the row with these values.
func valuesOf(l []formula, vals []api.Value) []api.Value {
	var made []api.Value
	for _, f := range l {
		made = append(made, f.value(vals))
	}
	return made
}

// picked returns the values at these places.
func picked(vals []api.Value, at []int) []api.Value {
	made := make([]api.Value, len(at))
	for i, k := range at {
		made[i] = vals[k]
	}
	return made
}

// compare compares valid values.
func compare(a, b api.Value) int {
	c, _ := value.Compare(a, b)
	return c
}

// compareLists compares two lists like values that are lists; they may be larger than such values can be.
func compareLists(a, b []api.Value) int {
	return slices.CompareFunc(a, b, compare)
}

// keyOf returns a text that is the same for two lists of values if, and only if, they are equal.
func keyOf(l []api.Value) string {
	var b strings.Builder
	for _, v := range l {
		s, _ := value.Text(v)
		// No textual form contains this byte.
		b.WriteString(s + "\n")
	}
	return b.String()
}

func number(n int) api.Value {
	v, _ := value.Number(n)
	return v
}
