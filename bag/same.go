package bag

import (
	"cmp"
	"slices"

	"cirrus/api"
	"cirrus/variant"
)

// Same reports whether a and b have the same columns and the same rows in the same order.
func Same(a, b api.Rows) bool {
	return slices.Equal(a.Cols, b.Cols) && slices.EqualFunc(a.Rows, b.Rows, func(r, s api.Row) bool {
		return r.Id == s.Id && sameValues(r.Vals, s.Vals)
	})
}

// Sort returns the rows sorted by their values, column by column, then by their numbers.
func Sort(r api.Rows) (api.Rows, api.Errno) {
	if !ValidRows(r) {
		return api.Rows{}, api.ErrForm
	}
	sorted := copied(r)
	slices.SortFunc(sorted.Rows, func(a, b api.Row) int {
		if c := compareLists(a.Vals, b.Vals); c != 0 {
			return c
		}
		return cmp.Compare(a.Id, b.Id)
	})
	return sorted, api.OK
}

// lists is two lists of values that are compared.
type lists struct {
	a, b []api.Value
}

// begun is where two lists of the same length begin, which is not 0.
type begun struct {
	a, b   *api.Value
	length int
}

// sameValues reports whether the values of two lists are the same in all fields. They need not be valid: lists that are
// compared already, as those of a value that contains itself, are not compared again.
func sameValues(a, b []api.Value) bool {
	open := []lists{{a, b}}
	seen := map[begun]bool{}
	for len(open) > 0 {
		next := open[len(open)-1]
		open = open[:len(open)-1]
		if !slices.EqualFunc(next.a, next.b, sameButItems) {
			return false
		}
		for i := range next.a {
			l := lists{next.a[i].Items, next.b[i].Items}
			if len(l.a) == 0 {
				continue
			}
			if at := (begun{&l.a[0], &l.b[0], len(l.a)}); !seen[at] {
				seen[at] = true
				open = append(open, l)
			}
		}
	}
	return true
}

// sameButItems reports whether two values are the same, and have as many items.
func sameButItems(a, b api.Value) bool {
	return a.Kind == b.Kind && a.Int == b.Int && a.Text == b.Text && slices.Equal(a.Keys, b.Keys) && len(a.Items) == len(b.Items)
}

// copied returns rows of valid values in new memory.
func copied(r api.Rows) api.Rows {
	made := api.Rows{Cols: slices.Clone(r.Cols)}
	for _, row := range r.Rows {
		vals := make([]api.Value, len(row.Vals))
		for i, v := range row.Vals {
			// Every value that is read at a path is in new memory.
			vals[i], _, _ = variant.Get(v, nil)
		}
		made.Rows = append(made.Rows, api.Row{Id: row.Id, Vals: vals})
	}
	return made
}
