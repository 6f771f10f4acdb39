package part

import (
	"maps"
	"slices"

	"cirrus/api"
	"cirrus/value"
	"cirrus/variant"
)

// column is values, one for each row, with their statistics.
type column struct {
	api.Stat
	vals []api.Value
}

// columnOf returns a column of valid values.
func columnOf(vals []api.Value) column {
	c := column{vals: vals}
	for _, v := range vals {
		c.count(v)
	}
	// Where there is only one value, it is both, but they share no memory.
	c.Min, c.Max = copied(c.Min), copied(c.Max)
	return c
}

// count adds one more value to the statistics.
func (c *column) count(v api.Value) {
	c.Rows++
	if v.Kind == api.KNull {
		c.Nulls++
		return
	}
	if c.Min.Kind == api.KNull || before(v, c.Min) {
		c.Min = v
	}
	// Null, which comes before every other value, needs no case of its own here.
	if before(c.Max, v) {
		c.Max = v
	}
}

// at returns the column of what is at the path in each value; null where there is nothing.
func (c column) at(path []api.Step) column {
	l := make([]api.Value, len(c.vals))
	for i, v := range c.vals {
		l[i], _, _ = variant.Get(v, path)
	}
	return columnOf(l)
}

// paths returns the paths at which statistics are kept, in their order.
func (c column) paths() [][]api.Step {
	// Paths cannot be the keys of a map, but their textual forms can, as no two have the same one.
	found := map[string][]api.Step{}
	for _, v := range c.vals {
		leaves, _ := variant.Leaves(v)
		for _, leaf := range leaves {
			if known(leaf) {
				text, _ := variant.PathText(leaf.Path)
				found[text] = leaf.Path
			}
		}
	}
	l := slices.SortedFunc(maps.Values(found), func(p, q []api.Step) int {
		c, _ := variant.Order(p, q)
		return c
	})
	return l[:min(len(l), api.MaxPaths)]
}

// known reports whether there is a value for which statistics are kept at its path: one that is
// neither null nor has a kind with items, at one or two keys.
func known(leaf api.Leaf) bool {
	switch leaf.Value.Kind {
	case api.KTruth, api.KInt, api.KText:
		return (len(leaf.Path) == 1 || len(leaf.Path) == 2) && !slices.ContainsFunc(leaf.Path, isIndex)
	}
	return false
}

func isIndex(s api.Step) bool { return s.Index >= 0 }

// head returns the head of the partition with these rows.
func head(r api.Rows) api.Head {
	ids := columnOf(numbers(r))
	h := api.Head{Cols: slices.Clone(r.Cols), Rows: ids.Rows, First: ids.Min.Int, Last: ids.Max.Int}
	for i, col := range r.Cols {
		c := columnOf(values(r, i))
		h.Stats = append(h.Stats, c.Stat)
		if col.Type != api.TVariant {
			continue
		}
		for _, path := range c.paths() {
			h.Paths = append(h.Paths, api.PathStat{Col: i, Path: path, Stat: c.at(path).Stat})
		}
	}
	return h
}

// before reports whether a valid value comes before another one.
func before(a, b api.Value) bool {
	c, _ := value.Compare(a, b)
	return c < 0
}

// copied returns the value in new memory, as everything is that is read at a path.
func copied(v api.Value) api.Value {
	v, _, _ = variant.Get(v, nil)
	return v
}
