package variant_test

import (
	"slices"
	"strconv"
	"strings"
	"testing"

	"cirrus/api"
	"cirrus/variant"
)

// leavesOf returns the leaves of a text: each a path, a blank, and a value.
func leavesOf(t *testing.T, texts ...string) []api.Leaf {
	t.Helper()
	var l []api.Leaf
	for _, s := range texts {
		p, v, _ := strings.Cut(s, " ")
		l = append(l, api.Leaf{Path: path(t, p), Value: parsed(t, v)})
	}
	return l
}

func sameLeaves(a, b []api.Leaf) bool {
	return slices.EqualFunc(a, b, func(a, b api.Leaf) bool {
		return slices.Equal(a.Path, b.Path) && same(a.Value, b.Value)
	})
}

func TestLeaves(t *testing.T) {
	for v, want := range map[string][]string{
		`null`:                                  {`$ null`},
		`true`:                                  {`$ true`},
		`7`:                                     {`$ 7`},
		`"a"`:                                   {`$ "a"`},
		`[]`:                                    {`$ []`},
		`{}`:                                    {`$ {}`},
		`{"a":[],"b":{"c":1}}`:                  {`$.a []`, `$.b.c 1`},
		`[1,[2,{}],[[]]]`:                       {`$[0] 1`, `$[1][0] 2`, `$[1][1] {}`, `$[2][0] []`},
		`{"b":{"z":1,"y":2},"a":null,"B":[0]}`:  {`$["B"][0] 0`, `$.a null`, `$.b.y 2`, `$.b.z 1`},
		`{"":{"":[null,null]}}`:                 {`$[""][""][0] null`, `$[""][""][1] null`},
		nested(5, "1"):                          {`$[0][0][0][0][0] 1`},
		nested(6, ""):                           {`$[0][0][0][0][0] []`},
		`{"a":{"a":{"a":{"a":{"a":1,"b":2}}}}}`: {`$.a.a.a.a.a 1`, `$.a.a.a.a.b 2`},
	} {
		got, e := variant.Leaves(parsed(t, v))
		if !sameLeaves(got, leavesOf(t, want...)) || e != api.OK {
			t.Errorf("Leaves(%s) = %v, %d", v, got, e)
		}
		if back, e := variant.Build(leavesOf(t, want...)); e != api.OK || shown(back) != shown(parsed(t, v)) {
			t.Errorf("Build(%s) = %s, %d", want, shown(back), e)
		}
	}
	if got, _ := variant.Leaves(parsed(t, list(59))); len(got) != 59 || got[58].Path[0] != index(58) {
		t.Errorf("Leaves of 59 items: %v", got)
	}
}

// The leaves are the parts without items, and their paths rise, as depth comes first and items are in order.
func TestLeavesOfMany(t *testing.T) {
	d := dice(4)
	for range 2000 {
		v := d.value()
		l, e := variant.Leaves(v)
		if e != api.OK {
			t.Fatalf("Leaves(%s): %d", shown(v), e)
		}
		var want []api.Leaf
		for _, p := range pathsOf(t, v) {
			if part, _, _ := variant.Get(v, p); len(part.Items) == 0 {
				want = append(want, api.Leaf{Path: p, Value: part})
			}
		}
		rise := slices.IsSortedFunc(l, func(a, b api.Leaf) int {
			c, _ := variant.Order(a.Path, b.Path)
			return c
		})
		if !sameLeaves(l, want) || !rise {
			t.Fatalf("Leaves(%s) = %v", shown(v), l)
		}
	}
}

// P2.2.
func TestBuildOfLeaves(t *testing.T) {
	d := dice(5)
	for range 3000 {
		v := d.value()
		l, _ := variant.Leaves(v)
		if got, e := variant.Build(l); e != api.OK || !same(got, v) {
			t.Fatalf("Build of Leaves(%s) = %s, %d", shown(v), shown(got), e)
		}
	}
	for _, s := range []string{list(59), object("a", 59), "[" + list(29) + "," + list(28) + "]", nested(6, ""), nested(5, "1")} {
		l, _ := variant.Leaves(parsed(t, s))
		if got, e := variant.Build(l); e != api.OK || shown(got) != s {
			t.Errorf("Build of Leaves(%s) = %s, %d", s, shown(got), e)
		}
	}
}

func TestBuildErrors(t *testing.T) {
	var many []string
	for i := range 60 {
		many = append(many, "$["+strconv.Itoa(i)+"] 1")
	}
	if _, e := variant.Build(leavesOf(t, many[:59]...)); e != api.OK {
		t.Errorf("Build of 59 items: %d", e)
	}
	for _, l := range [][]string{
		{},
		many,
		{`$ 1`, `$ 1`},
		{`$ null`, `$ null`},
		{`$ null`, `$.a 1`},
		{`$ {}`, `$.a 1`},
		{`$ []`, `$[0] 1`},
		{`$.a 1`, `$ {}`},
		{`$.a 1`, `$.a 1`},
		{`$.a 1`, `$.a 2`},
		{`$.b 1`, `$.a 1`},
		{`$.a null`, `$.a.b 1`},
		{`$.a.b 1`, `$.a null`},
		{`$.a 1`, `$[0] 1`},
		{`$[0] 1`, `$.a 1`},
		{`$[1] 1`},
		{`$[0] 1`, `$[2] 1`},
		{`$[1] 1`, `$[0] 1`},
		{`$[0] 1`, `$[0] 1`},
		{`$[0] 1`, `$[1] 1`, `$[0] 1`},
		{`$[0] null`, `$[0].a 1`},
		{`$.a 1`, `$.b.c 1`, `$.a 1`},
		{`$.b.c 1`, `$.a 1`, `$.b.d 1`},
		{`$.a.b 1`, `$.c 1`, `$.a.d 1`},
		{`$ [1]`},
		{`$ {"a":null}`},
		{`$.a [1]`},
		{`$.a {"b":1}`, `$.c 1`},
		{`$.a [1]`, `$.a[0] 1`},
		{`$.a 1`, `$.a.b 1`},
		{`$[0][0][0][0][0][0] 1`},
		{`$.a.a.a.a.a.a []`},
	} {
		got, e := variant.Build(leavesOf(t, l...))
		check(t, "Build of "+strings.Join(l, ", "), got, e, "", api.ErrArg)
	}
}

// ErrForm comes first, wherever the leaf that is not valid is.
func TestBuildInvalid(t *testing.T) {
	good := leavesOf(t, `$.b 1`, `$.a 1`)
	var bad []api.Leaf
	for _, p := range badPaths() {
		bad = append(bad, api.Leaf{Path: p})
	}
	for _, v := range badValues() {
		bad = append(bad, api.Leaf{Value: v})
	}
	for _, leaf := range bad {
		for _, l := range [][]api.Leaf{{leaf}, {leaf, good[0]}, {good[0], good[1], leaf}, append(make([]api.Leaf, 500), leaf)} {
			got, e := variant.Build(l)
			check(t, "Build", got, e, "", api.ErrForm)
		}
	}
	got, e := variant.Build(make([]api.Leaf, 1<<20))
	check(t, "Build of very many", got, e, "", api.ErrArg)
}

// Leaves that differ from those of a value in one thing are those of another value, or of none.
func TestBuildOfOthers(t *testing.T) {
	d := dice(6)
	for range 3000 {
		l, _ := variant.Leaves(d.value())
		switch i := d.roll(len(l)); d.roll(4) {
		case 0:
			l = slices.Delete(l, i, i+1)
		case 1:
			l = slices.Insert(l, i, api.Leaf{Path: d.path(), Value: d.value()})
		case 2:
			l[i].Path = d.path()
		case 3:
			k := d.roll(len(l))
			l[i], l[k] = l[k], l[i]
		}
		v, e := variant.Build(l)
		if e != api.OK && e != api.ErrArg {
			t.Fatalf("Build(%v): %d", l, e)
		}
		if made, _ := variant.Leaves(v); e == api.OK && !sameLeaves(made, l) {
			t.Fatalf("Build(%v) = %s", l, shown(v))
		}
	}
}

func TestFlatten(t *testing.T) {
	for v, want := range map[string][]string{
		`null`:                            {},
		`false`:                           {},
		`12`:                              {},
		`"text"`:                          {},
		`[]`:                              {},
		`{}`:                              {},
		`[4,{}]`:                          {`$[0] 4`, `$[1] {}`},
		`[[[1]],null]`:                    {`$[0] [[1]]`, `$[1] null`},
		`{"b":[1,{"c":2}],"a":"x","":{}}`: {`$[""] {}`, `$.a "x"`, `$.b [1,{"c":2}]`},
	} {
		got, e := variant.Flatten(parsed(t, v))
		if !sameLeaves(got, leavesOf(t, want...)) || e != api.OK {
			t.Errorf("Flatten(%s) = %v, %d", v, got, e)
		}
	}
	if got, _ := variant.Flatten(parsed(t, list(59))); len(got) != 59 || got[58].Path[0] != index(58) {
		t.Errorf("Flatten of 59 items: %v", got)
	}
}

// R5: leaves share no memory with the value, or with one another.
func TestLeavesAreNewMemory(t *testing.T) {
	const text = `{"a":{"b":[[1,2],{}]},"c":[[],{"d":[3,4]}]}`
	for name, call := range map[string]func(api.Value) ([]api.Leaf, api.Errno){"Leaves": variant.Leaves, "Flatten": variant.Flatten} {
		v := parsed(t, text)
		got, _ := call(v)
		want, _ := call(v)
		scribble(v)
		if !sameLeaves(got, want) {
			t.Errorf("%s: the result has memory of the value", name)
		}
		for i := range got {
			scribbleLeaves(got[i : i+1])
			if !sameLeaves(got[i+1:], want[i+1:]) {
				t.Errorf("%s: the leaves share memory", name)
			}
		}
		v = parsed(t, text)
		got, _ = call(v)
		scribbleLeaves(got)
		if shown(v) != text {
			t.Errorf("%s: the value has memory of the result", name)
		}
	}
}

// R5: nor do they have the memory that an empty list has room in.
func TestEmptyLeavesAreNewMemory(t *testing.T) {
	empty := api.Value{Kind: api.KList, Items: make([]api.Value, 0, 9), Keys: make([]string, 0, 9)}
	v := api.Value{Kind: api.KList, Items: []api.Value{empty}}
	for name, call := range map[string]func(api.Value) ([]api.Leaf, api.Errno){"Leaves": variant.Leaves, "Flatten": variant.Flatten} {
		got, _ := call(v)
		if !sameLeaves(got, leavesOf(t, `$[0] []`)) || cap(got[0].Value.Items) != 0 || cap(got[0].Value.Keys) != 0 {
			t.Errorf("%s: %v", name, got)
		}
	}
}

// R5: also where a leaf is no leaf, and what is below it comes later.
func TestBuildLeavesArgumentsAlone(t *testing.T) {
	for _, texts := range [][]string{
		{`$.a []`, `$.b.c {}`, `$.b.d null`},
		{`$.a [1,2]`, `$.a[0] 3`},
		{`$.a {"b":null}`, `$.a.b 3`},
		{`$ {"a":[1]}`, `$.a[0] 3`},
	} {
		l, want := leavesOf(t, texts...), leavesOf(t, texts...)
		got, _ := variant.Build(l)
		if !sameLeaves(l, want) {
			t.Errorf("Build(%s) changes its argument", texts)
		}
		scribble(got)
		if !sameLeaves(l, want) {
			t.Errorf("Build(%s): the result has memory of the argument", texts)
		}
	}
}
