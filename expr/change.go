package expr

import (
	"slices"

	"cirrus/api"
	"cirrus/value"
)

// Put replaces each col with this name in e by the expression by; ErrSize if the result would not be valid.
func Put(e api.Expr, name string, by api.Expr) (api.Expr, api.Errno) {
	if !Valid(e) || !value.Word(name) || !Valid(by) {
		return api.Expr{}, api.ErrForm
	}
	made := replaced(e, func(part api.Expr) (api.Expr, bool) {
		if part.Op != "col" || part.Name != name {
			return api.Expr{}, false
		}
		return copied(by), true
	})
	if !Valid(made) {
		return api.Expr{}, api.ErrSize
	}
	return made, api.OK
}

// Fold replaces each part of e without columns that is in no larger one by a const of its value.
func Fold(e api.Expr) (api.Expr, api.Errno) {
	if !Valid(e) {
		return api.Expr{}, api.ErrForm
	}
	return replaced(e, func(part api.Expr) (api.Expr, bool) {
		if hasColumns(part) {
			return api.Expr{}, false
		}
		return constant(row{}.value(part)), true
	}), api.OK
}

// And returns the conjunction of l; ErrSize if it would not be valid.
func And(l ...api.Expr) (api.Expr, api.Errno) {
	for _, e := range l {
		if !Valid(e) {
			return api.Expr{}, api.ErrForm
		}
	}
	if len(l) == 0 {
		return constant(truth(true)), api.OK
	}
	made := copied(l[0])
	for _, e := range l[1:] {
		made = api.Expr{Op: "and", Kids: []api.Expr{made, copied(e)}}
		// What is too large so far is a part of the whole; to look now keeps it small, however long l is.
		if !Valid(made) {
			return api.Expr{}, api.ErrSize
		}
	}
	return made, api.OK
}

// Ands returns the conjuncts of e.
func Ands(e api.Expr) ([]api.Expr, api.Errno) {
	if !Valid(e) {
		return nil, api.ErrForm
	}
	return conjuncts(e), api.OK
}

func conjuncts(e api.Expr) []api.Expr {
	if e.Op != "and" {
		return []api.Expr{copied(e)}
	}
	return slices.Concat(conjuncts(e.Kids[0]), conjuncts(e.Kids[1]))
}

func hasColumns(e api.Expr) bool {
	for range columns(e) {
		return true
	}
	return false
}

func constant(v api.Value) api.Expr {
	return api.Expr{Op: "const", Val: copiedValue(v)}
}

// replaced returns e in new memory, where each part for which swap reports true, and that is in no larger such part,
// is what swap returns for it.
func replaced(e api.Expr, swap func(part api.Expr) (api.Expr, bool)) api.Expr {
	if by, ok := swap(e); ok {
		return by
	}
	made := api.Expr{Op: e.Op, Name: e.Name, Val: copiedValue(e.Val), Path: append([]api.Step(nil), e.Path...)}
	for _, kid := range e.Kids {
		made.Kids = append(made.Kids, replaced(kid, swap))
	}
	return made
}

// copied returns e in new memory.
func copied(e api.Expr) api.Expr {
	return replaced(e, func(api.Expr) (api.Expr, bool) { return api.Expr{}, false })
}
