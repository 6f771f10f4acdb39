package bag

import (
	"slices"

	"cirrus/api"
	"cirrus/value"
)

func (n node) table() (api.Rows, bool) {
	for _, t := range n.tables {
		if t.Name == n.query.Name {
			return t.Rows, true
		}
	}
	return api.Rows{}, false
}

func (n node) tableColumns() ([]api.Column, api.Errno) {
	r, ok := n.table()
	if !ok {
		return nil, api.ErrName
	}
	return r.Cols, api.OK
}

// kidColumns: those of the only kid, unchanged.
func (n node) kidColumns() ([]api.Column, api.Errno) {
	return n.kids[0].Cols, api.OK
}

// namedColumns: those of Cols.
func (n node) namedColumns() ([]api.Column, api.Errno) {
	var cols []api.Column
	for _, c := range n.query.Cols {
		made := api.Column{Name: c.Name, Type: api.TVariant}
		if c.Expr.Op == "col" {
			kid := n.kids[0].Cols
			made.Type = kid[position(kid, c.Expr.Name)].Type
		}
		cols = append(cols, made)
	}
	return cols, api.OK
}

func (n node) groupColumns() ([]api.Column, api.Errno) {
	cols, e := n.namedColumns()
	for _, a := range n.query.Aggs {
		cols = append(cols, api.Column{Name: a.Name, Type: api.TVariant})
	}
	return cols, e
}

func (n node) joinColumns() ([]api.Column, api.Errno) {
	return together(n.allColumns())
}

func (n node) flattenColumns() ([]api.Column, api.Errno) {
	return together(append(n.allColumns(),
		api.Column{Name: n.query.Name, Type: api.TVariant},
		api.Column{Name: n.query.Name + "_at", Type: api.TVariant}))
}

// together returns cols, if they can be the columns of one part.
func together(cols []api.Column) ([]api.Column, api.Errno) {
	for i, c := range cols {
		if position(cols, c.Name) < i {
			return nil, api.ErrTwice
		}
	}
	for _, c := range cols {
		if !value.Word(c.Name) {
			return nil, api.ErrForm
		}
	}
	if len(cols) > api.MaxCols {
		return nil, api.ErrSize
	}
	return cols, api.OK
}

func (n node) unionColumns() ([]api.Column, api.Errno) {
	first, second := n.kids[0].Cols, n.kids[1].Cols
	if !slices.EqualFunc(first, second, func(a, b api.Column) bool { return a.Name == b.Name }) {
		return nil, api.ErrType
	}
	cols := slices.Clone(first)
	for i, c := range second {
		if cols[i].Type != c.Type {
			cols[i].Type = api.TVariant
		}
	}
	return cols, api.OK
}
