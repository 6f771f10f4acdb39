package zone

import (
	"slices"

	"cirrus/api"
	"cirrus/value"
	"cirrus/variant"
)

func allValid(l []api.Head) bool {
	for _, h := range l {
		if !Valid(h) {
			return false
		}
	}
	return true
}

func validStats(h api.Head) bool {
	if len(h.Stats) != len(h.Cols) {
		return false
	}
	for i, c := range h.Cols {
		if !consistent(h.Stats[i], h.Rows, c.Type) {
			return false
		}
	}
	return true
}

func validPaths(h api.Head) bool {
	for i, p := range h.Paths {
		if !validPath(h, p) || i > 0 && !rises(h.Paths[i-1], p) {
			return false
		}
		// As they rise by Col, those of one Col follow one another.
		if i >= api.MaxPaths && h.Paths[i-api.MaxPaths].Col == p.Col {
			return false
		}
	}
	return true
}

// validPath reports whether p can be among the paths of h.
func validPath(h api.Head, p api.PathStat) bool {
	if p.Col < 0 || p.Col >= len(h.Cols) || h.Cols[p.Col].Type != api.TVariant {
		return false
	}
	if len(p.Path) < 1 || len(p.Path) > 2 || !variant.Valid(p.Path) || slices.ContainsFunc(p.Path, isIndex) {
		return false
	}
	return consistent(p.Stat, h.Rows, api.TVariant)
}

func isIndex(s api.Step) bool { return s.Index >= 0 }

// rises reports whether q comes after p, both of valid paths.
func rises(p, q api.PathStat) bool {
	if p.Col != q.Col {
		return p.Col < q.Col
	}
	c, _ := variant.Order(p.Path, q.Path)
	return c < 0
}

// consistent reports whether s can be the statistics of so many values that fit a column of type t.
func consistent(s api.Stat, rows, t int) bool {
	if s.Rows != rows || s.Nulls < 0 || s.Nulls > rows || !value.Fits(s.Min, t) || !value.Fits(s.Max, t) {
		return false
	}
	if s.Nulls == rows {
		return isNull(s.Min) && isNull(s.Max)
	}
	// Null comes before all other values, so that Max is not null if Min is not.
	return !isNull(s.Min) && !before(s.Max, s.Min)
}

// statOf returns what h says of the values of e, if that is a column or what is at a path in one.
func statOf(h api.Head, e api.Expr) (api.Stat, bool) {
	if e.Op == "col" {
		return h.Stats[position(h, e.Name)], true
	}
	if e.Op != "get" || e.Kids[0].Op != "col" {
		return api.Stat{}, false
	}
	col := position(h, e.Kids[0].Name)
	for _, p := range h.Paths {
		if p.Col == col && slices.Equal(p.Path, e.Path) {
			return p.Stat, true
		}
	}
	return api.Stat{}, false
}

// position returns where the column with this name is.
func position(h api.Head, name string) int {
	return slices.IndexFunc(h.Cols, func(c api.Column) bool { return c.Name == name })
}

func isNull(v api.Value) bool { return v.Kind == api.KNull }

// before reports whether a valid value comes before another one.
func before(a, b api.Value) bool {
	c, _ := value.Compare(a, b)
	return c < 0
}

func equal(a, b api.Value) bool {
	c, _ := value.Compare(a, b)
	return c == 0
}

// copied returns the value in new memory, as everything is that is read at a path.
func copied(v api.Value) api.Value {
	v, _, _ = variant.Get(v, nil)
	return v
}
