package expr

import (
	"strings"

	"cirrus/api"
)

func ofTexts(op string) (operation, bool) {
	switch op {
	case "cat":
		return ofStrings(2, func(s ...string) api.Value { return text(s[0] + s[1]) }), true
	case "lower":
		return ofStrings(1, func(s ...string) api.Value { return text(strings.ToLower(s[0])) }), true
	case "like":
		return ofStrings(2, func(s ...string) api.Value { return truth(matches(s[0], s[1])) }), true
	case "slice":
		return exactly(3, func(_ api.Expr, l ...api.Value) api.Value { return slice(l[0], l[1], l[2]) }), true
	case "len":
		return exactly(1, func(_ api.Expr, l ...api.Value) api.Value { return length(l[0]) }), true
	}
	return operation{}, false
}

// ofStrings returns the operation that computes a value of so many strings. It is null for other values.
func ofStrings(kids int, compute func(s ...string) api.Value) operation {
	return exactly(kids, func(_ api.Expr, l ...api.Value) api.Value {
		var s []string
		for _, v := range l {
			if v.Kind != api.KText {
				return api.Value{}
			}
			s = append(s, v.Text)
		}
		return compute(s...)
	})
}

// slice returns the substring of v from that index on, of at most so many bytes.
func slice(v, from, most api.Value) api.Value {
	if v.Kind != api.KText || from.Kind != api.KInt || most.Kind != api.KInt || from.Int < 0 || most.Int < 0 {
		return api.Value{}
	}
	rest := v.Text[min(from.Int, len(v.Text)):]
	return text(rest[:min(most.Int, len(rest))])
}

func length(v api.Value) api.Value {
	switch v.Kind {
	case api.KText:
		return number(len(v.Text))
	case api.KList, api.KObject:
		return number(len(v.Items))
	}
	return api.Value{}
}

// matches reports whether s matches the pattern, in which % matches any bytes and _ any one byte.
// After a mismatch only the last % takes one byte more: those before it have matched as little as they can,
// which leaves the most of s to the rest of the pattern.
func matches(s, pattern string) bool {
	at, next := 0, 0     // what is compared now, in s and in the pattern
	again, after := 0, 0 // where what follows the last % begins, in s and in the pattern; 0: there was no % yet
	for at < len(s) {
		switch {
		case next < len(pattern) && pattern[next] == '%':
			next++
			again, after = at, next
		case next < len(pattern) && (pattern[next] == '_' || pattern[next] == s[at]):
			at++
			next++
		case after > 0:
			again++
			at, next = again, after
		default:
			return false
		}
	}
	return strings.Trim(pattern[next:], "%") == ""
}

// text returns the string s; null if it is too long.
func text(s string) api.Value {
	if len(s) > api.MaxText {
		return api.Value{}
	}
	return api.Value{Kind: api.KText, Text: s}
}
