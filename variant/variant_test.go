package variant_test

import (
	"slices"
	"strings"
	"testing"

	"cirrus/api"
	"cirrus/variant"
)

func TestValid(t *testing.T) {
	for _, p := range [][]api.Step{
		nil, {}, steps(index(0)), steps(index(api.MaxIndex)), steps(key("")), steps(key("a")), steps(key(" !~\"\\")),
		steps(key(strings.Repeat("~", api.MaxText))), steps(key("a"), index(99), key("B c"), index(0), key(""), index(1)),
		make([]api.Step, api.MaxPath), make([]api.Step, 0, 100),
	} {
		if !variant.Valid(p) {
			t.Errorf("%v is not valid", p)
		}
	}
	for _, p := range badPaths() {
		if variant.Valid(p) {
			t.Errorf("%v is valid", p)
		}
	}
}

// rising lists valid paths in their order.
func rising() [][]api.Step {
	return [][]api.Step{
		nil,
		steps(index(0)),
		steps(index(0), index(0)),
		steps(index(0), index(3)),
		steps(index(0), key("")),
		steps(index(2)),
		steps(index(2), key("a")),
		steps(index(10)),
		steps(index(99)),
		steps(index(99), key("z"), key("z"), key("z"), key("z"), key("z")),
		steps(key("")),
		steps(key(""), index(99)),
		steps(key(" ")),
		steps(key("10")),
		steps(key("9")),
		steps(key("B")),
		steps(key("a")),
		steps(key("a"), index(1)),
		steps(key("a"), key("a")),
		steps(key("a"), key("a"), index(0)),
		steps(key("a"), key("b")),
		steps(key("aa")),
		steps(key("aa"), index(0)),
		steps(key("b")),
	}
}

func TestOrder(t *testing.T) {
	for i, p := range rising() {
		for k, q := range rising() {
			want := max(-1, min(1, i-k))
			if c, e := variant.Order(p, q); c != want || e != api.OK {
				t.Errorf("Order(%v, %v) = %d, %d", p, q, c, e)
			}
		}
	}
	if c, e := variant.Order(nil, []api.Step{}); c != 0 || e != api.OK {
		t.Errorf("Order of nil and an empty path = %d, %d", c, e)
	}
	for _, bad := range badPaths() {
		for _, p := range [][]api.Step{nil, bad} {
			if c, e := variant.Order(p, bad); c != 0 || e != api.ErrForm {
				t.Errorf("Order(%v, %v) = %d, %d", p, bad, c, e)
			}
			if c, e := variant.Order(bad, p); c != 0 || e != api.ErrForm {
				t.Errorf("Order(%v, %v) = %d, %d", bad, p, c, e)
			}
		}
	}
}

func TestGet(t *testing.T) {
	const v = `{"":7,"a":[5,[6,{"b":null}]],"b c":{"d":null},"n":null,"t":"ab"}`
	for _, c := range []struct {
		v, p, want string // want: empty if there is none
	}{
		{v, `$`, v},
		{v, `$[""]`, `7`},
		{v, `$.a`, `[5,[6,{"b":null}]]`},
		{v, `$.a[0]`, `5`},
		{v, `$.a[1]`, `[6,{"b":null}]`},
		{v, `$.a[1][1].b`, `null`},
		{v, `$["b c"].d`, `null`},
		{v, `$.n`, `null`},
		{v, `$.b`, ``},
		{v, `$.aa`, ``},
		{v, `$["A"]`, ``},
		{v, `$[0]`, ``},
		{v, `$[1]`, ``},
		{v, `$.a.b`, ``},
		{v, `$.a[2]`, ``},
		{v, `$.a[99]`, ``},
		{v, `$.a[0][0]`, ``},
		{v, `$.n.a`, ``},
		{v, `$.n[0]`, ``},
		{v, `$.t[0]`, ``},
		{v, `$.t.a`, ``},
		{v, `$.x.y.z`, ``},
		{`{"a":[5]}`, `$[0]`, ``},
		{`null`, `$`, `null`},
		{`null`, `$.a`, ``},
		{`[]`, `$[0]`, ``},
		{`{}`, `$[""]`, ``},
		{nested(5, "1"), `$[0][0][0][0][0]`, `1`},
		{nested(5, "1"), `$[0][0][0][0][0][0]`, ``},
	} {
		got, ok, e := variant.Get(parsed(t, c.v), path(t, c.p))
		want := c.want
		if want == "" {
			want = "null"
		}
		if shown(got) != want || ok != (c.want != "") || e != api.OK {
			t.Errorf("Get(%s, %s) = %s, %t, %d", c.v, c.p, shown(got), ok, e)
		}
	}
}

// A value or a path that is not valid is refused by every function (R2), with zero values (R3); lists in themselves are not followed without end (R1).
func TestInvalidArguments(t *testing.T) {
	null := api.Value{}
	is := func(what string, got api.Value, e api.Errno) {
		t.Helper()
		check(t, what, got, e, "", api.ErrForm)
	}
	for _, v := range badValues() {
		for _, p := range append(badPaths(), nil, steps(key("a")), steps(index(0))) {
			got, ok, e := variant.Get(v, p)
			if is("Get", got, e); ok {
				t.Error("Get: true")
			}
			got, e = variant.Remove(v, p)
			is("Remove", got, e)
			for _, x := range []api.Value{null, v} {
				got, e = variant.Put(v, p, x)
				is("Put", got, e)
				got, e = variant.Put(x, p, v)
				is("Put", got, e)
			}
		}
		for _, x := range []api.Value{null, parsed(t, "{}"), v} {
			got, e := variant.Merge(v, x)
			is("Merge", got, e)
			got, e = variant.Merge(x, v)
			is("Merge", got, e)
			got, e = variant.Patch(v, x)
			is("Patch", got, e)
			got, e = variant.Patch(x, v)
			is("Patch", got, e)
		}
		if l, e := variant.Leaves(v); len(l) != 0 || e != api.ErrForm {
			t.Errorf("Leaves = %v, %d", l, e)
		}
		if l, e := variant.Flatten(v); len(l) != 0 || e != api.ErrForm {
			t.Errorf("Flatten = %v, %d", l, e)
		}
	}
	for _, p := range badPaths() {
		got, ok, e := variant.Get(null, p)
		if is("Get", got, e); ok {
			t.Error("Get: true")
		}
		got, e = variant.Put(null, p, null)
		is("Put", got, e)
		got, e = variant.Remove(null, p)
		is("Remove", got, e)
		if s, e := variant.PathText(p); s != "" || e != api.ErrForm {
			t.Errorf("PathText(%v) = %q, %d", p, s, e)
		}
	}
}

// R5: arguments are left alone, and results share no memory with them.
func TestResultsAreNewMemory(t *testing.T) {
	const text, other = `{"a":[1,{"b":[2]}],"c":{"d":{"e":[]}},"f":{}}`, `{"a":{"x":[1]},"c":{"d":{}}}`
	for name, call := range map[string]func(v, x api.Value, p []api.Step) (api.Value, api.Errno){
		"Get": func(v, x api.Value, p []api.Step) (api.Value, api.Errno) {
			r, _, e := variant.Get(v, p[:1])
			return r, e
		},
		"all":    func(v, x api.Value, p []api.Step) (api.Value, api.Errno) { r, _, e := variant.Get(v, nil); return r, e },
		"Put":    func(v, x api.Value, p []api.Step) (api.Value, api.Errno) { return variant.Put(v, p, x) },
		"whole":  func(v, x api.Value, p []api.Step) (api.Value, api.Errno) { return variant.Put(v, nil, x) },
		"Remove": func(v, x api.Value, p []api.Step) (api.Value, api.Errno) { return variant.Remove(v, p) },
		"Merge":  func(v, x api.Value, p []api.Step) (api.Value, api.Errno) { return variant.Merge(v, x) },
		"onto":   func(v, x api.Value, p []api.Step) (api.Value, api.Errno) { return variant.Merge(number(1), v) },
		"by":     func(v, x api.Value, p []api.Step) (api.Value, api.Errno) { return variant.Merge(v, v.Items[0]) },
		"Patch":  func(v, x api.Value, p []api.Step) (api.Value, api.Errno) { return variant.Patch(v, x) },
		"from":   func(v, x api.Value, p []api.Step) (api.Value, api.Errno) { return variant.Patch(number(1), x) },
	} {
		v, x, p := parsed(t, text), parsed(t, other), path(t, "$.a[1]")
		got, e := call(v, x, p)
		if e != api.OK {
			t.Fatalf("%s: %d", name, e)
		}
		if shown(v) != text || shown(x) != other || shownPath(p) != "$.a[1]" {
			t.Errorf("%s changes its arguments", name)
		}
		want := shown(got)
		again := twin(got)
		scribble(got)
		if shown(v) != text || shown(x) != other {
			t.Errorf("%s: the result has memory of the arguments", name)
		}
		got, _ = call(v, x, p)
		scribble(v)
		scribble(x)
		scribblePath(p)
		if shown(got) != want || !same(got, again) {
			t.Errorf("%s: the arguments have memory of the result", name)
		}
	}
}

// One value that is an argument twice, or occurs twice in one, is not one in the result.
func TestPartsOfResultsAreApart(t *testing.T) {
	part := parsed(t, `{"a":[1]}`)
	twice := api.Value{Kind: api.KObject, Keys: []string{"x", "y"}, Items: []api.Value{part, part}}
	put, _ := variant.Put(twice, steps(key("z")), part)
	merged, _ := variant.Merge(twice, twice)
	patch, _ := variant.Patch(parsed(t, "{}"), twice)
	built, _ := variant.Build([]api.Leaf{{Value: api.Value{Kind: api.KList, Items: make([]api.Value, 0, 9)}}})
	got, _, _ := variant.Get(twice, nil)
	for name, v := range map[string]api.Value{"Put": put, "Merge": merged, "Patch": patch, "Get": got} {
		scribble(v.Items[0])
		for _, item := range v.Items[1:] {
			if shown(item) != `{"a":[1]}` {
				t.Errorf("%s: the items share memory", name)
			}
		}
	}
	if cap(built.Items) != 0 {
		t.Error("Build keeps the memory of an empty list")
	}
}

// What is ranged over by tests of promises: that it is not all the same.
func TestDice(t *testing.T) {
	d := dice(1)
	var l []string
	for range 1000 {
		l = append(l, shown(d.value()))
	}
	slices.Sort(l)
	if n := len(slices.Compact(l)); n < 400 {
		t.Errorf("%d different values of 1000", n)
	}
}
