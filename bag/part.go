package bag

import (
	"slices"

	"cirrus/api"
	"cirrus/expr"
)

// part is what an Op stands for.
type part struct {
	kids    int
	fields  int // which fields there are besides Op and Kids
	columns func(n node) ([]api.Column, api.Errno)
	rows    func(n node) []api.Row
}

// parts returns what the Ops stand for.
func parts() map[string]part {
	return map[string]part{
		"scan":     {0, hasName, node.tableColumns, node.scan},
		"filter":   {1, hasExpr, node.kidColumns, node.filter},
		"project":  {1, hasCols, node.namedColumns, node.project},
		"join":     {2, hasExpr, node.joinColumns, node.join},
		"left":     {2, hasExpr, node.joinColumns, node.left},
		"group":    {1, hasCols | hasAggs, node.groupColumns, node.group},
		"sort":     {1, hasKeys, node.kidColumns, node.sort},
		"limit":    {1, hasCount, node.kidColumns, node.limit},
		"distinct": {1, 0, node.kidColumns, node.distinct},
		"union":    {2, 0, node.unionColumns, node.union},
		"flatten":  {1, hasName | hasExpr, node.flattenColumns, node.flatten},
	}
}

// node is a part of a query over tables, with what its kids yield: columns, and when it is run, rows, too.
// The rows share memory with the tables and with one another; what is in them is never written into.
type node struct {
	query  api.Query
	tables []api.Table
	kids   []api.Rows
}

// header returns the columns of what the valid query q yields over the valid tables; otherwise the first error of q.
func header(q api.Query, tables []api.Table) ([]api.Column, api.Errno) {
	n := node{query: q, tables: tables}
	for _, kid := range q.Kids {
		cols, e := header(kid, tables)
		if e != api.OK {
			return nil, e
		}
		n.kids = append(n.kids, api.Rows{Cols: cols})
	}
	if !n.hasAllColumns() {
		return nil, api.ErrName
	}
	return parts()[q.Op].columns(n)
}

// result returns what q, which has a header, yields over the tables; ErrSize if a part of it yields too many rows.
func result(q api.Query, tables []api.Table) (api.Rows, api.Errno) {
	n := node{query: q, tables: tables}
	for _, kid := range q.Kids {
		r, e := result(kid, tables)
		if e != api.OK {
			return api.Rows{}, e
		}
		n.kids = append(n.kids, r)
	}
	p := parts()[q.Op]
	rows := p.rows(n)
	if tooMany(rows) {
		return api.Rows{}, api.ErrSize
	}
	cols, _ := p.columns(n)
	return api.Rows{Cols: cols, Rows: rows}, api.OK
}

// tooMany reports whether there are more rows than a part of a query may yield.
// A part that can yield far more stops as soon as it has too many.
func tooMany(rows []api.Row) bool { return len(rows) > api.MaxBag }

// hasAllColumns reports whether the kids have the columns of all expressions of n.
func (n node) hasAllColumns() bool {
	cols := n.allColumns()
	for _, x := range expressions(n.query) {
		names, _ := expr.Columns(x)
		for _, name := range names {
			if position(cols, name) < 0 {
				return false
			}
		}
	}
	return true
}

// allColumns returns the columns of all kids.
func (n node) allColumns() []api.Column {
	var cols []api.Column
	for _, kid := range n.kids {
		cols = append(cols, kid.Cols...)
	}
	return cols
}

// expressions returns the expressions in q, its kids aside.
func expressions(q api.Query) []api.Expr {
	l := slices.Concat(exprsOfCols(q), exprsOfAggs(q), exprsOfKeys(q))
	if parts()[q.Op].fields&hasExpr != 0 {
		l = append(l, q.Expr)
	}
	return l
}

func exprsOfCols(q api.Query) []api.Expr {
	return exprs(q.Cols, func(c api.Named) api.Expr { return c.Expr })
}

func exprsOfAggs(q api.Query) []api.Expr {
	return exprs(q.Aggs, func(a api.Agg) api.Expr { return a.Expr })
}

func exprsOfKeys(q api.Query) []api.Expr {
	return exprs(q.Keys, func(k api.Key) api.Expr { return k.Expr })
}

func exprs[T any](l []T, of func(T) api.Expr) []api.Expr {
	var made []api.Expr
	for _, x := range l {
		made = append(made, of(x))
	}
	return made
}

// position returns where the column with this name is in cols; -1 if there is none.
func position(cols []api.Column, name string) int {
	return slices.IndexFunc(cols, func(c api.Column) bool { return c.Name == name })
}
