package expr

import (
	"cirrus/api"
	"cirrus/value"
)

// ofKinds: the kinds of values, and values as those of another kind.
func ofKinds(op string) (operation, bool) {
	switch op {
	case "kind":
		return exactly(1, func(_ api.Expr, l ...api.Value) api.Value { return text(kindName(l[0].Kind)) }), true
	case "cast":
		return exactly(1, func(e api.Expr, l ...api.Value) api.Value { return casts()[e.Name](l[0]) }), true
	}
	return operation{}, false
}

func kindName(kind int) string {
	names := [...]string{
		api.KNull: "null", api.KTruth: "truth", api.KInt: "int", api.KText: "text", api.KList: "list", api.KObject: "object",
	}
	return names[kind]
}

// casts returns what values can be cast to, by name.
func casts() map[string]func(v api.Value) api.Value {
	return map[string]func(v api.Value) api.Value{
		"truth": toTruth,
		"int":   toInt,
		"text":  toText,
	}
}

func toTruth(v api.Value) api.Value {
	switch v.Kind {
	case api.KTruth:
		return v
	case api.KInt:
		return truth(v.Int != 0)
	case api.KText:
		if v.Text == "true" || v.Text == "false" {
			return truth(v.Text == "true")
		}
	}
	return api.Value{}
}

func toInt(v api.Value) api.Value {
	switch v.Kind {
	case api.KInt:
		return v
	case api.KTruth:
		return number(v.Int)
	case api.KText:
		// Not all that denotes an int is its textual form.
		n, _ := value.Parse(v.Text)
		if s, _ := value.Text(n); n.Kind == api.KInt && s == v.Text {
			return n
		}
	}
	return api.Value{}
}

func toText(v api.Value) api.Value {
	if v.Kind == api.KText || v.Kind == api.KNull {
		return v
	}
	s, _ := value.Text(v)
	return text(s)
}
