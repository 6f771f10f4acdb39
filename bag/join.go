package bag

import (
	"slices"

	"cirrus/api"
	"cirrus/expr"
)

func (n node) join() []api.Row { return n.combined(false) }

func (n node) left() []api.Row { return n.combined(true) }

// combined returns the combined rows for which the condition holds; if alone is set, also the rows of the first kid
// without a match, with nulls.
func (n node) combined(alone bool) []api.Row {
	first, second := n.kids[0], n.kids[1]
	nulls := make([]api.Value, len(second.Cols))
	m := n.matcher()
	var rows []api.Row
	for _, r := range first.Rows {
		found := m.find(r.Vals)
		for _, i := range found {
			rows = append(rows, api.Row{Vals: slices.Concat(r.Vals, second.Rows[i].Vals)})
		}
		if len(found) == 0 && alone {
			rows = append(rows, api.Row{Vals: slices.Concat(r.Vals, nulls)})
		}
		if tooMany(rows) {
			break
		}
	}
	return rows
}

// matcher finds the rows of the second kid that match a row of the first one. There can be so many combinations of rows
// that not each of them can be examined. But the condition is the same for rows that differ only in what it does not
// need, and it holds for no rows that differ in values that it wants to be equal.
type matcher struct {
	condition formula
	needed    []int              // where what it needs of a row of the first kid is
	equal     []equality         // what must be equal
	rows      []api.Row          // of the second kid
	groups    map[string][]group // of these rows, that have in common what the condition needs, by the key of what must be equal
	known     map[string][]int   // which rows match, by the key of what the condition needs of a row of the first kid
}

// equality is two formulas, one over the rows of each kid, whose values must be equal and not null.
type equality [2]formula

func (n node) matcher() matcher {
	first, second := n.kids[0], n.kids[1]
	m := matcher{
		condition: formulaOf(n.query.Expr, n.allColumns()),
		equal:     equalities(n.query.Expr, first.Cols, second.Cols),
		rows:      second.Rows,
		groups:    map[string][]group{},
		known:     map[string][]int{},
	}
	var others []int
	for _, i := range m.condition.at {
		if i < len(first.Cols) {
			m.needed = append(m.needed, i)
		} else {
			others = append(others, i-len(first.Cols))
		}
	}
	for _, g := range gathered(second.Rows, func(vals []api.Value) []api.Value { return picked(vals, others) }) {
		if key, ok := m.keyOfEqual(1, second.Rows[g.at[0]].Vals); ok {
			m.groups[key] = append(m.groups[key], g)
		}
	}
	return m
}

// equalities returns what a condition over the columns of both kids wants to be equal of each kid by itself.
func equalities(condition api.Expr, first, second []api.Column) []equality {
	conjuncts, _ := expr.Ands(condition)
	var l []equality
	for _, c := range conjuncts {
		if c.Op != "eq" {
			continue
		}
		a, b := c.Kids[0], c.Kids[1]
		if expr.Check(first, a) != api.OK || expr.Check(second, b) != api.OK {
			a, b = b, a
		}
		if expr.Check(first, a) == api.OK && expr.Check(second, b) == api.OK {
			l = append(l, equality{formulaOf(a, first), formulaOf(b, second)})
		}
	}
	return l
}

// keyOfEqual returns the key of the values of a row of this kid (0 or 1) that must be equal to those of the other one;
// false if one of them is null, as it is equal to nothing then.
func (m matcher) keyOfEqual(kid int, vals []api.Value) (string, bool) {
	var l []api.Value
	for _, e := range m.equal {
		v := e[kid].value(vals)
		if v.Kind == api.KNull {
			return "", false
		}
		l = append(l, v)
	}
	return keyOf(l), true
}

// find returns where the rows are that match the first kid's row with these values, rising.
func (m matcher) find(vals []api.Value) []int {
	key := keyOf(picked(vals, m.needed))
	found, ok := m.known[key]
	if !ok {
		found = m.search(vals)
		m.known[key] = found
	}
	return found
}

func (m matcher) search(vals []api.Value) []int {
	key, ok := m.keyOfEqual(0, vals)
	if !ok {
		return nil
	}
	var found []int
	for _, g := range m.groups[key] {
		if m.condition.holds(slices.Concat(vals, m.rows[g.at[0]].Vals)) {
			found = append(found, g.at...)
		}
	}
	slices.Sort(found)
	return found
}
