package expr

import (
	"cirrus/api"
	"cirrus/value"
)

func logic(op string) (operation, bool) {
	switch op {
	case "not":
		return exactly(1, func(_ api.Expr, l ...api.Value) api.Value {
			if l[0].Kind != api.KTruth {
				return api.Value{}
			}
			return truth(l[0].Int == 0)
		}), true
	case "and":
		return exactly(2, func(_ api.Expr, l ...api.Value) api.Value { return decided(0, l...) }), true
	case "or":
		return exactly(2, func(_ api.Expr, l ...api.Value) api.Value { return decided(1, l...) }), true
	case "in":
		return orMore(2, func(_ api.Expr, l ...api.Value) api.Value {
			var found []api.Value
			for _, v := range l[1:] {
				found = append(found, equal(l[0], v))
			}
			return decided(1, found...)
		}), true
	}
	return operation{}, false
}

// decided returns the truth by if one of l is it; otherwise null if one of them is no truth; otherwise the other truth.
func decided(by int, l ...api.Value) api.Value {
	made := truth(by == 0)
	for _, v := range l {
		switch {
		case v.Kind != api.KTruth:
			made = api.Value{}
		case v.Int == by:
			return v
		}
	}
	return made
}

func comparison(op string) (operation, bool) {
	switch op {
	case "eq":
		return exactly(2, func(_ api.Expr, l ...api.Value) api.Value { return equal(l[0], l[1]) }), true
	case "ne":
		return exactly(2, func(_ api.Expr, l ...api.Value) api.Value {
			v := equal(l[0], l[1])
			if v.Kind == api.KNull {
				return v
			}
			return truth(v.Int == 0)
		}), true
	case "lt":
		return ordered(func(order int) bool { return order < 0 }), true
	case "le":
		return ordered(func(order int) bool { return order <= 0 }), true
	case "gt":
		return ordered(func(order int) bool { return order > 0 }), true
	case "ge":
		return ordered(func(order int) bool { return order >= 0 }), true
	case "same":
		return exactly(2, func(_ api.Expr, l ...api.Value) api.Value { return truth(compare(l[0], l[1]) == 0) }), true
	case "null":
		return exactly(1, func(_ api.Expr, l ...api.Value) api.Value { return truth(l[0].Kind == api.KNull) }), true
	}
	return operation{}, false
}

// ordered returns the operation that asks holds how two values of one kind come, if they have an order in this language.
func ordered(holds func(order int) bool) operation {
	return exactly(2, func(_ api.Expr, l ...api.Value) api.Value {
		a, b := l[0], l[1]
		if a.Kind != b.Kind {
			return api.Value{}
		}
		switch a.Kind {
		case api.KTruth, api.KInt, api.KText:
			return truth(holds(compare(a, b)))
		}
		return api.Value{}
	})
}

// equal returns null if one of the values is null; otherwise whether they are equal.
func equal(a, b api.Value) api.Value {
	if a.Kind == api.KNull || b.Kind == api.KNull {
		return api.Value{}
	}
	return truth(compare(a, b) == 0)
}

// compare compares valid values.
func compare(a, b api.Value) int {
	c, _ := value.Compare(a, b)
	return c
}

func truth(holds bool) api.Value {
	v := api.Value{Kind: api.KTruth}
	if holds {
		v.Int = 1
	}
	return v
}

func isTrue(v api.Value) bool { return v.Kind == api.KTruth && v.Int == 1 }
