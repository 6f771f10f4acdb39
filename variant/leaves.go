package variant

import (
	"iter"

	"cirrus/api"
	"cirrus/value"
)

// Leaves returns the parts of v without items, each with its path, in their order.
func Leaves(v api.Value) ([]api.Leaf, api.Errno) {
	if !value.Valid(v) {
		return nil, api.ErrForm
	}
	var l []api.Leaf
	for leaf := range leaves(v) {
		l = append(l, leaf)
	}
	return l, api.OK
}

// Build returns the value whose leaves are l; ErrArg if there is no such value.
func Build(l []api.Leaf) (api.Value, api.Errno) {
	for _, leaf := range l {
		if !Valid(leaf.Path) || !value.Valid(leaf.Value) {
			return api.Value{}, api.ErrForm
		}
	}
	// So many leaves no value has; what is built of fewer is small.
	if len(l) > api.MaxNodes {
		return api.Value{}, api.ErrArg
	}
	var v api.Value
	for _, leaf := range l {
		if put(&v, leaf.Path, copied(leaf.Value)) != api.OK {
			return api.Value{}, api.ErrArg
		}
	}
	// Leaves that hide one another, have items, or come in another order were put nevertheless.
	if !value.Valid(v) || !hasLeaves(v, l) {
		return api.Value{}, api.ErrArg
	}
	return v, api.OK
}

// Flatten returns the items of a list or an object, each with the path of one step to it; of other values nothing.
func Flatten(v api.Value) ([]api.Leaf, api.Errno) {
	if !value.Valid(v) {
		return nil, api.ErrForm
	}
	var l []api.Leaf
	for i, item := range v.Items {
		l = append(l, api.Leaf{Path: []api.Step{stepTo(v, i)}, Value: copied(item)})
	}
	return l, api.OK
}

// leaves returns the leaves of v, to be ranged over. They share no memory.
func leaves(v api.Value) iter.Seq[api.Leaf] {
	return func(yield func(api.Leaf) bool) {
		visit(v, nil, yield)
	}
}

// visit yields the leaves of v, which lies at that path, until yield does not want more, and reports whether it still does.
func visit(v api.Value, path []api.Step, yield func(api.Leaf) bool) bool {
	if len(v.Items) == 0 {
		return yield(api.Leaf{Path: append([]api.Step(nil), path...), Value: copied(v)})
	}
	for i, item := range v.Items {
		if !visit(item, append(path, stepTo(v, i)), yield) {
			return false
		}
	}
	return true
}

// hasLeaves reports whether the leaves of v are l.
func hasLeaves(v api.Value, l []api.Leaf) bool {
	n := 0
	for leaf := range leaves(v) {
		if n == len(l) || !sameLeaf(leaf, l[n]) {
			return false
		}
		n++
	}
	return n == len(l)
}

func sameLeaf(a, b api.Leaf) bool {
	return orderLists(a.Path, b.Path, orderSteps) == 0 && equal(a.Value, b.Value)
}
