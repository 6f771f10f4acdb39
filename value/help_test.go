package value_test

import (
	"strings"
	"testing"

	"cirrus/api"
	"cirrus/value"
)

func truth(n int) api.Value { return api.Value{Kind: api.KTruth, Int: n} }

func number(n int) api.Value { return api.Value{Kind: api.KInt, Int: n} }

func text(s string) api.Value { return api.Value{Kind: api.KText, Text: s} }

func list(l ...api.Value) api.Value { return api.Value{Kind: api.KList, Items: l} }

func object(keys []string, l ...api.Value) api.Value {
	return api.Value{Kind: api.KObject, Keys: keys, Items: l}
}

// nested returns empty lists in one another, so many in all.
func nested(depth int) api.Value {
	if depth == 1 {
		return list()
	}
	return list(nested(depth - 1))
}

// wide returns a list with so many nodes in all.
func wide(nodes int) api.Value { return list(make([]api.Value, nodes-1)...) }

// endless returns a list that contains itself.
func endless() api.Value {
	l := make([]api.Value, 1)
	l[0] = list(l...)
	l[0].Items = l
	return l[0]
}

// endlessWide returns an object that contains itself often.
func endlessWide() api.Value {
	l := make([]api.Value, 3)
	v := object([]string{"a", "b", "c"}, l...)
	for i := range l {
		l[i] = v
		l[i].Items = l
	}
	return l[0]
}

type sample struct {
	name string
	v    api.Value
}

// invalid lists values each of which breaks one rule.
func invalid() []sample {
	null := api.Value{}
	return []sample{
		{"kind -1", api.Value{Kind: -1}},
		{"kind 6", api.Value{Kind: 6}},
		{"null with an int", api.Value{Int: 1}},
		{"null with a text", api.Value{Text: "a"}},
		{"null with items", api.Value{Items: []api.Value{null}}},
		{"null with keys", api.Value{Keys: []string{"a"}}},
		{"truth 2", truth(2)},
		{"truth -1", truth(-1)},
		{"truth with a text", api.Value{Kind: api.KTruth, Text: "a"}},
		{"truth with items", api.Value{Kind: api.KTruth, Items: []api.Value{null}}},
		{"truth with keys", api.Value{Kind: api.KTruth, Keys: []string{"a"}}},
		{"int above", number(api.MaxInt + 1)},
		{"int below", number(-api.MaxInt - 1)},
		{"greatest int of all", number(1<<63 - 1)},
		{"least int of all", number(-1 << 63)},
		{"int with a text", api.Value{Kind: api.KInt, Text: "a"}},
		{"int with items", api.Value{Kind: api.KInt, Items: []api.Value{null}}},
		{"int with keys", api.Value{Kind: api.KInt, Keys: []string{"a"}}},
		{"text too long", text(strings.Repeat("a", api.MaxText+1))},
		{"text with byte 31", text("a\x1f")},
		{"text with byte 127", text("\x7fa")},
		{"text with byte 0", text("a\x00a")},
		{"text with byte 128", text("\x80")},
		{"text with byte 255", text("\xff")},
		{"text with an int", api.Value{Kind: api.KText, Int: 1}},
		{"text with items", api.Value{Kind: api.KText, Items: []api.Value{null}}},
		{"text with keys", api.Value{Kind: api.KText, Keys: []string{"a"}}},
		{"list with an int", api.Value{Kind: api.KList, Int: 1}},
		{"list with a text", api.Value{Kind: api.KList, Text: "a"}},
		{"list with keys", api.Value{Kind: api.KList, Keys: []string{"a"}, Items: []api.Value{null}}},
		{"list with an invalid item", list(null, truth(2))},
		{"object with an int", api.Value{Kind: api.KObject, Int: 1}},
		{"object with a text", api.Value{Kind: api.KObject, Text: "a"}},
		{"object with an invalid item", object([]string{"a"}, text("\n"))},
		{"object with too few keys", object([]string{"a"}, null, null)},
		{"object with too many keys", object([]string{"a", "b"}, null)},
		{"keys that fall", object([]string{"b", "a"}, null, null)},
		{"keys that are the same", object([]string{"a", "a"}, null, null)},
		{"a longer key first", object([]string{"aa", "a"}, null, null)},
		{"key too long", object([]string{strings.Repeat("a", api.MaxText+1)}, null)},
		{"key with byte 31", object([]string{"\x1f"}, null)},
		{"key with byte 127", object([]string{"a", "b\x7f"}, null, null)},
		{"key with byte 200", object([]string{"\xc8"}, null)},
		{"too deep", nested(api.MaxDepth + 1)},
		{"a leaf too deep", list(nested(api.MaxDepth-1), list(list(list(list(list(null))))))},
		{"too many nodes", wide(api.MaxNodes + 1)},
		{"too many nodes below", list(wide(api.MaxNodes/2), wide(api.MaxNodes/2))},
		{"a list in itself", endless()},
		{"an object in itself", endlessWide()},
	}
}

// valid lists valid values, in their order.
func valid() []sample {
	null := api.Value{}
	long := strings.Repeat("~", api.MaxText)
	return []sample{
		{`null`, null},
		{`false`, truth(0)},
		{`true`, truth(1)},
		{`-1000000000000`, number(-api.MaxInt)},
		{`-10`, number(-10)},
		{`-9`, number(-9)},
		{`0`, number(0)},
		{`1`, number(1)},
		{`9`, number(9)},
		{`10`, number(10)},
		{`1000000000000`, number(api.MaxInt)},
		{`""`, text("")},
		{`" "`, text(" ")},
		{`"\""`, text(`"`)},
		{`"1"`, text("1")},
		{`"10"`, text("10")},
		{`"9"`, text("9")},
		{`"A"`, text("A")},
		{`"[ ] { } , :"`, text("[ ] { } , :")},
		{`"\\"`, text(`\`)},
		{`"\\\""`, text(`\"`)},
		{`"a"`, text("a")},
		{`"a b"`, text("a b")},
		{`"aa"`, text("aa")},
		{`"null"`, text("null")},
		{`"` + long + `"`, text(long)},
		{`[]`, list()},
		{`[null]`, list(null)},
		{`[null,null]`, list(null, null)},
		{`[1,3]`, list(number(1), number(3))},
		{`[2]`, list(number(2))},
		{`[2,null]`, list(number(2), null)},
		{`["a"]`, list(text("a"))},
		{`[[]]`, list(list())},
		{`[[],1]`, list(list(), number(1))},
		{`[[[[[[]]]]]]`, nested(api.MaxDepth)},
		{`[{}]`, list(object(nil))},
		{`{}`, object(nil)},
		{`{"":1}`, object([]string{""}, number(1))},
		{`{"a":1}`, object([]string{"a"}, number(1))},
		{`{"a":1,"b":2}`, object([]string{"a", "b"}, number(1), number(2))},
		{`{"a":2}`, object([]string{"a"}, number(2))},
		{`{"a":[1,null]}`, object([]string{"a"}, list(number(1), null))},
		{`{"a\"\\":null}`, object([]string{`a"\`}, null)},
		{`{"aa":null}`, object([]string{"aa"}, null)},
		{`{"b":0}`, object([]string{"b"}, number(0))},
		{`{"` + long + `":{}}`, object([]string{long}, object(nil))},
	}
}

// copied returns the value with slices of its own.
func copied(v api.Value) api.Value {
	v.Keys = append([]string(nil), v.Keys...)
	v.Items = copiedList(v.Items)
	return v
}

func copiedList(l []api.Value) []api.Value {
	var made []api.Value
	for _, v := range l {
		made = append(made, copied(v))
	}
	return made
}

// same reports whether all fields are the same; a nil slice and an empty one are.
func same(a, b api.Value) bool {
	if a.Kind != b.Kind || a.Int != b.Int || a.Text != b.Text || len(a.Keys) != len(b.Keys) {
		return false
	}
	for i := range a.Keys {
		if a.Keys[i] != b.Keys[i] {
			return false
		}
	}
	return sameLists(a.Items, b.Items)
}

func sameLists(a, b []api.Value) bool {
	if len(a) != len(b) {
		return false
	}
	for i := range a {
		if !same(a[i], b[i]) {
			return false
		}
	}
	return true
}

// dice returns numbers that look like random ones and are always the same.
type dice uint64

func (d *dice) roll(n int) int {
	*d = *d*6364136223846793005 + 1442695040888963407
	return int(uint64(*d)>>33) % n
}

// made returns a valid value of at most that depth, out of few different parts, so that equal ones and beginnings occur often.
func (d *dice) made(depth int) api.Value {
	kinds := 6
	if depth == 1 {
		kinds = 4
	}
	switch d.roll(kinds) {
	case 1:
		return truth(d.roll(2))
	case 2:
		return number(d.roll(5)*7 - 10)
	case 3:
		return text([]string{"", " ", `"`, `\`, "a", "ab"}[d.roll(6)])
	case 4:
		v := list()
		for range d.roll(4) {
			v.Items = append(v.Items, d.made(depth-1))
		}
		return v
	case 5:
		v := object(nil)
		for _, key := range []string{"", " :", "a", `a"`, "b"} {
			if d.roll(3) == 0 {
				v.Keys = append(v.Keys, key)
				v.Items = append(v.Items, d.made(depth-1))
			}
		}
		return v
	}
	return api.Value{}
}

// several returns the valid values of the list, and so many made ones.
func several(t *testing.T, n int) []api.Value {
	t.Helper()
	var l []api.Value
	for _, s := range valid() {
		l = append(l, s.v)
	}
	d := dice(1)
	for len(l) < n {
		if v := d.made(4); value.Valid(v) {
			l = append(l, v)
		}
	}
	return l
}
