package bag

import (
	"cirrus/api"
	"cirrus/expr"
	"cirrus/value"
)

// Valid reports whether q is valid.
func Valid(q api.Query) bool {
	nodes := 0
	return valid(q, 1, &nodes)
}

// ValidRows reports whether r is valid.
func ValidRows(r api.Rows) bool {
	if !validColumns(r.Cols) || len(r.Rows) > api.MaxRows {
		return false
	}
	for _, row := range r.Rows {
		if row.Id < 0 || row.Id > api.MaxId || !fit(row.Vals, r.Cols) {
			return false
		}
	}
	return true
}

// valid reports whether q is valid at that level of a query of which so many nodes were visited before.
// It stops at the first node beyond a limit, so that it also ends for a query that contains itself.
func valid(q api.Query, level int, nodes *int) bool {
	*nodes++
	if *nodes > api.MaxQuery || level > api.MaxLevel || !sound(q) {
		return false
	}
	for _, kid := range q.Kids {
		if !valid(kid, level+1, nodes) {
			return false
		}
	}
	return true
}

// sound reports whether q is valid, its kids aside.
func sound(q api.Query) bool {
	p, ok := parts()[q.Op]
	if !ok || len(q.Kids) != p.kids {
		return false
	}
	for _, f := range fields() {
		if p.fields&f.bit != 0 && !f.valid(q) || p.fields&f.bit == 0 && !f.unset(q) {
			return false
		}
	}
	return true
}

func validCols(q api.Query) bool {
	var names []string
	n := len(q.Cols) + len(q.Aggs)
	if n == 0 || n > api.MaxCols {
		return false
	}
	for _, c := range q.Cols {
		names = append(names, c.Name)
	}
	for _, a := range q.Aggs {
		names = append(names, a.Name)
	}
	return differentWords(names) && validExprs(exprsOfCols(q))
}

// validAggs is asked only after validCols, which counts and names both.
func validAggs(q api.Query) bool {
	ops := aggregates()
	for _, a := range q.Aggs {
		if ops[a.Op] == nil {
			return false
		}
	}
	return validExprs(exprsOfAggs(q))
}

func validKeys(q api.Query) bool {
	return len(q.Keys) > 0 && len(q.Keys) <= api.MaxCols && validExprs(exprsOfKeys(q))
}

func validExprs(l []api.Expr) bool {
	for _, x := range l {
		if !expr.Valid(x) {
			return false
		}
	}
	return true
}

func unsetExpr(x api.Expr) bool {
	v := x.Val
	return x.Op == "" && x.Name == "" && len(x.Path) == 0 && len(x.Kids) == 0 &&
		v.Kind == api.KNull && v.Int == 0 && v.Text == "" && len(v.Items) == 0 && len(v.Keys) == 0
}

func validTables(tables []api.Table) bool {
	var names []string
	for _, t := range tables {
		if !ValidRows(t.Rows) {
			return false
		}
		names = append(names, t.Name)
	}
	return differentWords(names)
}

func validColumns(cols []api.Column) bool {
	if len(cols) == 0 || len(cols) > api.MaxCols {
		return false
	}
	var names []string
	for _, c := range cols {
		if c.Type < api.TTruth || c.Type > api.TVariant {
			return false
		}
		names = append(names, c.Name)
	}
	return differentWords(names)
}

// differentWords reports whether all names are words, and no two of them the same.
func differentWords(names []string) bool {
	seen := map[string]bool{}
	for _, name := range names {
		if !value.Word(name) || seen[name] {
			return false
		}
		seen[name] = true
	}
	return true
}

// fit reports whether there is one value for each column, and it fits.
func fit(vals []api.Value, cols []api.Column) bool {
	if len(vals) != len(cols) {
		return false
	}
	for i, c := range cols {
		if !value.Fits(vals[i], c.Type) {
			return false
		}
	}
	return true
}
