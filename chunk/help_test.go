package chunk_test

import (
	"encoding/binary"
	"slices"
	"strings"
	"testing"

	"cirrus/api"
	"cirrus/value"
)

var encodings = []int{api.EPlain, api.ERuns, api.EDict, api.EDelta}

// noEncodings lists numbers that no encoding has.
var noEncodings = []int{0, 5, -1, 256, 257, 1 << 32, 1<<63 - 1, -1 << 63}

func number(n int) api.Value { return api.Value{Kind: api.KInt, Int: n} }

func text(s string) api.Value { return api.Value{Kind: api.KText, Text: s} }

func list(l ...api.Value) api.Value { return api.Value{Kind: api.KList, Items: l} }

// values returns the items of the list that s denotes.
func values(t *testing.T, s string) []api.Value {
	t.Helper()
	v, e := value.Parse(s)
	if e != api.OK || v.Kind != api.KList {
		t.Fatalf("Parse(%s): %d", s, e)
	}
	return v.Items
}

// shown returns the textual forms of values; for one that is not valid, that it is not.
func shown(l []api.Value) string {
	var all []string
	for _, v := range l {
		s, e := value.Text(v)
		if e != api.OK {
			s = "not valid"
		}
		all = append(all, s)
	}
	return "[" + strings.Join(all, ",") + "]"
}

// same reports whether the values are valid and the same.
func same(a, b []api.Value) bool {
	return slices.EqualFunc(a, b, func(a, b api.Value) bool {
		c, e := value.Compare(a, b)
		return c == 0 && e == api.OK
	})
}

// twin returns the values with memory of their own.
func twin(l []api.Value) []api.Value {
	var made []api.Value
	for _, v := range l {
		v.Keys = slices.Clone(v.Keys)
		v.Items = twin(v.Items)
		made = append(made, v)
	}
	return made
}

// scribble writes over all the memory of l, what lies behind the ends of slices included.
func scribble(l []api.Value) {
	l = l[:cap(l)]
	for i := range l {
		scribble(l[i].Items)
		keys := l[i].Keys[:cap(l[i].Keys)]
		for j := range keys {
			keys[j] = "scribble"
		}
		l[i] = number(-77)
	}
}

// nested returns empty lists in one another, so many in all.
func nested(depth int) api.Value {
	if depth == 1 {
		return list()
	}
	return list(nested(depth - 1))
}

// wide returns a list with so many nodes in all.
func wide(nodes int) api.Value { return list(make([]api.Value, nodes-1)...) }

// invalid lists values each of which is invalid in another way.
func invalid() []api.Value {
	endless := make([]api.Value, 2)
	for i := range endless {
		endless[i] = list(endless...)
	}
	for i := range endless {
		endless[i].Items = endless
	}
	return []api.Value{
		{Kind: -1}, {Kind: 6}, {Kind: 256}, {Int: 1}, {Text: "a"}, {Keys: []string{"a"}}, {Kind: api.KTruth, Int: 2}, {Kind: api.KTruth, Int: 256},
		number(api.MaxInt + 1), number(-api.MaxInt - 1), number(1<<63 - 1), number(-1 << 63),
		text("\n"), text("\x7f"), text(strings.Repeat("a", api.MaxText+1)),
		{Kind: api.KObject, Keys: []string{"b", "a"}, Items: make([]api.Value, 2)},
		{Kind: api.KObject, Keys: []string{"a", "a"}, Items: make([]api.Value, 2)},
		{Kind: api.KObject, Keys: []string{"a"}},
		{Kind: api.KObject, Items: make([]api.Value, 1)},
		list(api.Value{Kind: 9}), wide(api.MaxNodes + 1), nested(api.MaxDepth + 1), endless[0],
	}
}

// large lists valid values at the limits.
func large() []api.Value {
	long := strings.Repeat("~", api.MaxText)
	return []api.Value{
		number(api.MaxInt), number(-api.MaxInt), number(0), text(""), text(long), list(), wide(api.MaxNodes), nested(api.MaxDepth),
		{Kind: api.KObject}, {Kind: api.KObject, Keys: []string{"", long}, Items: []api.Value{text(long), nested(api.MaxDepth - 1)}},
	}
}

// defined returns the bytes of the values as the chapter defines them; false if there are none.
// What it calls a number and an int, others call varints, of which the latter ones are zigzag encoded.
func defined(l []api.Value, enc int) (string, bool) {
	var b []byte
	count := func(n int) { b = binary.AppendUvarint(b, uint64(n)) }
	var add func(v api.Value)
	add = func(v api.Value) {
		b = append(b, byte(v.Kind))
		switch v.Kind {
		case api.KTruth:
			b = append(b, byte(v.Int))
		case api.KInt:
			b = binary.AppendVarint(b, int64(v.Int))
		case api.KText:
			count(len(v.Text))
			b = append(b, v.Text...)
		case api.KList, api.KObject:
			count(len(v.Items))
			for i, item := range v.Items {
				if v.Kind == api.KObject {
					count(len(v.Keys[i]))
					b = append(b, v.Keys[i]...)
				}
				add(item)
			}
		}
	}
	equal := func(v, w api.Value) bool {
		c, _ := value.Compare(v, w)
		return c == 0
	}
	switch enc {
	case api.EPlain:
		count(len(l))
		for _, v := range l {
			add(v)
		}
	case api.ERuns:
		var starts []int
		for i := range l {
			if i == 0 || !equal(l[i-1], l[i]) {
				starts = append(starts, i)
			}
		}
		count(len(starts))
		for i, start := range starts {
			end := append(starts, len(l))[i+1]
			count(end - start)
			add(l[start])
		}
	case api.EDict:
		distinct, _ := value.Distinct(l)
		count(len(distinct))
		for _, v := range distinct {
			add(v)
		}
		count(len(l))
		for _, v := range l {
			count(slices.IndexFunc(distinct, func(w api.Value) bool { return equal(v, w) }))
		}
	case api.EDelta:
		count(len(l))
		for i, v := range l {
			if v.Kind != api.KInt {
				return "", false
			}
			if i == 0 {
				b = binary.AppendVarint(b, int64(v.Int))
			} else {
				b = binary.AppendVarint(b, int64(v.Int-l[i-1].Int))
			}
		}
	}
	return string(b), true
}

// dice returns numbers that look like random ones and are always the same.
type dice uint64

func (d *dice) roll(n int) int {
	*d = *d*6364136223846793005 + 1442695040888963407
	return int(uint64(*d)>>33) % n
}

// value returns a valid value of at most that depth.
func (d *dice) value(depth int) api.Value {
	kinds := 6
	if depth == 1 {
		kinds = 4
	}
	switch d.roll(kinds) {
	case 1:
		return api.Value{Kind: api.KTruth, Int: d.roll(2)}
	case 2:
		return d.number()
	case 3:
		return text(strings.Repeat(string(rune('a'+d.roll(2))), d.roll(4)))
	case 4:
		v := list()
		for range d.roll(4) {
			v.Items = append(v.Items, d.value(depth-1))
		}
		return v
	case 5:
		v := api.Value{Kind: api.KObject}
		for _, key := range []string{"", "a", "ab", "b"} {
			if d.roll(3) == 0 {
				v.Keys = append(v.Keys, key)
				v.Items = append(v.Items, d.value(depth-1))
			}
		}
		return v
	}
	return api.Value{}
}

// number returns an int with any number of digits.
func (d *dice) number() api.Value {
	most := 1
	for range d.roll(13) {
		most *= 10
	}
	return number(d.roll(2*most+1) - most)
}

// values returns valid values, often several equal ones, and often in place; in every third list only ints.
func (d *dice) values() []api.Value {
	var pool, l []api.Value
	ints := d.roll(3) == 0
	for range 1 + d.roll(6) {
		if ints {
			pool = append(pool, d.number())
		} else {
			pool = append(pool, d.value(3))
		}
	}
	long := d.roll(30)
	if d.roll(10) == 0 {
		long = d.roll(api.MaxRows + 1)
	}
	for len(l) < long {
		if len(l) == 0 || d.roll(3) == 0 {
			l = append(l, pool[d.roll(len(pool))])
		} else {
			l = append(l, l[len(l)-1])
		}
	}
	return l
}

// samples returns lists of valid values: some at the limits, and so many others.
func samples(n int) [][]api.Value {
	all := [][]api.Value{nil, large(), make([]api.Value, api.MaxRows)}
	for _, v := range large() {
		all = append(all, []api.Value{v}, []api.Value{v, v}, []api.Value{v, {}, v})
	}
	all = append(all, []api.Value{number(-api.MaxInt), number(api.MaxInt), number(-api.MaxInt)})
	all = append(all, slices.Repeat([]api.Value{wide(api.MaxNodes)}, api.MaxRows))
	var rising []api.Value
	for i := range api.MaxRows {
		rising = append(rising, number(i))
	}
	all = append(all, rising)
	d := dice(5)
	for range n {
		all = append(all, d.values())
	}
	return all
}
