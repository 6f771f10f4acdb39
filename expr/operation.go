package expr

import (
	"cirrus/api"
	"cirrus/value"
	"cirrus/variant"
)

// operation is what an Op stands for.
type operation struct {
	least, most int // how many kids there can be
	apply       function
}

// function computes the value of an expression, the values of whose kids are the operands.
type function func(e api.Expr, operands ...api.Value) api.Value

func exactly(kids int, apply function) operation {
	return operation{kids, kids, apply}
}

// orMore returns an operation with at least so many kids. How many there are at most, the limit of the whole expression says.
func orMore(kids int, apply function) operation {
	return operation{kids, api.MaxExpr, apply}
}

// operationOf returns what op stands for, and whether it stands for anything.
func operationOf(op string) (operation, bool) {
	groups := [...]func(string) (operation, bool){simple, logic, comparison, arithmetic, ofTexts, ofParts, choice, ofKinds}
	for _, group := range groups {
		if o, ok := group(op); ok {
			return o, true
		}
	}
	return operation{}, false
}

func simple(op string) (operation, bool) {
	switch op {
	case "col":
		// There is nothing to apply: the value is looked up in the row.
		return exactly(0, nil), true
	case "const":
		return exactly(0, func(e api.Expr, _ ...api.Value) api.Value { return e.Val }), true
	}
	return operation{}, false
}

// ofParts: parts of values, and values of parts.
func ofParts(op string) (operation, bool) {
	switch op {
	case "get":
		return exactly(1, func(e api.Expr, l ...api.Value) api.Value {
			v, _, _ := variant.Get(l[0], e.Path)
			return v
		}), true
	case "has":
		return exactly(1, func(e api.Expr, l ...api.Value) api.Value {
			_, there, _ := variant.Get(l[0], e.Path)
			return truth(there)
		}), true
	case "put":
		return exactly(2, func(e api.Expr, l ...api.Value) api.Value {
			v, _ := variant.Put(l[0], e.Path, l[1])
			return v
		}), true
	case "list":
		return orMore(0, func(_ api.Expr, l ...api.Value) api.Value {
			v := api.Value{Kind: api.KList, Items: l}
			if !value.Valid(v) {
				return api.Value{}
			}
			return v
		}), true
	}
	return operation{}, false
}

// hasPath reports whether the expressions with this Op have a Path.
func hasPath(op string) bool {
	return op == "get" || op == "has" || op == "put"
}

func choice(op string) (operation, bool) {
	switch op {
	case "if":
		return exactly(3, func(_ api.Expr, l ...api.Value) api.Value {
			if isTrue(l[0]) {
				return l[1]
			}
			return l[2]
		}), true
	case "first":
		return orMore(1, func(_ api.Expr, l ...api.Value) api.Value {
			for _, v := range l {
				if v.Kind != api.KNull {
					return v
				}
			}
			return api.Value{}
		}), true
	}
	return operation{}, false
}
