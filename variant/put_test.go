package variant_test

import (
	"strings"
	"testing"

	"cirrus/api"
	"cirrus/variant"
)

func TestPut(t *testing.T) {
	for _, c := range []struct {
		v, p, x, want string
	}{
		{`null`, `$`, `[1]`, `[1]`},
		{`{"a":1}`, `$`, `null`, `null`},
		{`null`, `$.a`, `1`, `{"a":1}`},
		{`null`, `$[0]`, `1`, `[1]`},
		{`null`, `$.x.y`, `1`, `{"x":{"y":1}}`},
		{`null`, `$.x[0].y[0]`, `{}`, `{"x":[{"y":[{}]}]}`},
		{`null`, `$[""]`, `null`, `{"":null}`},
		{`{}`, `$.a`, `null`, `{"a":null}`},
		{`{"b":1}`, `$.a`, `2`, `{"a":2,"b":1}`},
		{`{"b":1}`, `$.c`, `2`, `{"b":1,"c":2}`},
		{`{"a":1,"c":1}`, `$.b`, `[]`, `{"a":1,"b":[],"c":1}`},
		{`{"a":1,"b":2,"c":3}`, `$.b`, `[]`, `{"a":1,"b":[],"c":3}`},
		{`{"a":{"b":1}}`, `$.a`, `2`, `{"a":2}`},
		{`{"a":{"b":1}}`, `$.a.c`, `2`, `{"a":{"b":1,"c":2}}`},
		{`{"a":null}`, `$.a.b`, `2`, `{"a":{"b":2}}`},
		{`{"a":null}`, `$.a[0]`, `2`, `{"a":[2]}`},
		{`{"a":null}`, `$.a`, `2`, `{"a":2}`},
		{`[]`, `$[0]`, `1`, `[1]`},
		{`[1,2]`, `$[0]`, `9`, `[9,2]`},
		{`[1,2]`, `$[1]`, `9`, `[1,9]`},
		{`[1,2]`, `$[2]`, `9`, `[1,2,9]`},
		{`[1,2]`, `$[2].a[0]`, `9`, `[1,2,{"a":[9]}]`},
		{`[null,2]`, `$[0].a`, `9`, `[{"a":9},2]`},
		{`[[1],[2]]`, `$[1][1]`, `9`, `[[1],[2,9]]`},
	} {
		got, e := variant.Put(parsed(t, c.v), path(t, c.p), parsed(t, c.x))
		check(t, "Put("+c.v+", "+c.p+")", got, e, c.want, api.OK)
	}
}

// Of two errors the one at the earlier step is returned, and both before ErrSize.
func TestPutErrors(t *testing.T) {
	for _, c := range []struct {
		v, p string
		want api.Errno
	}{
		{`3`, `$.a`, api.ErrType},
		{`3`, `$[0]`, api.ErrType},
		{`3`, `$[5]`, api.ErrType},
		{`true`, `$.a`, api.ErrType},
		{`"a"`, `$[0]`, api.ErrType},
		{`[]`, `$.a`, api.ErrType},
		{`{}`, `$[0]`, api.ErrType},
		{`{}`, `$[1]`, api.ErrType},
		{`[1,2]`, `$[0][0]`, api.ErrType},
		{`{"a":false}`, `$.a.b.c`, api.ErrType},
		{`{"a":{"b":[]}}`, `$.a.b.c`, api.ErrType},
		{`[]`, `$[1]`, api.ErrArg},
		{`null`, `$[1]`, api.ErrArg},
		{`[1]`, `$[2]`, api.ErrArg},
		{`[1]`, `$[99]`, api.ErrArg},
		{`null`, `$.a[1]`, api.ErrArg},
		{`{"a":[]}`, `$.a[1]`, api.ErrArg},
		{`null`, `$.a[0].b[1].c`, api.ErrArg},
		{`[3]`, `$[2].a`, api.ErrArg},
		{`[3]`, `$[0].a[7]`, api.ErrType},
		{`[[]]`, `$[0][1].a`, api.ErrArg},
		{`null`, `$.a.a.a.a.a[1]`, api.ErrArg},
		{nested(5, "1"), `$[0][0][0][0][0][0]`, api.ErrType},
		{list(59), `$[60]`, api.ErrArg},
	} {
		got, e := variant.Put(parsed(t, c.v), path(t, c.p), number(1))
		check(t, "Put("+c.v+", "+c.p+")", got, e, "", c.want)
	}
}

func TestPutLimits(t *testing.T) {
	long := `["` + strings.Repeat("~", api.MaxText) + `"]`
	for _, c := range []struct {
		v, p, x string
		want    api.Errno
	}{
		{`null`, `$.a.a.a.a.a`, `1`, api.OK},
		{`null`, `$.a.a.a.a.a`, `[]`, api.OK},
		{`null`, `$.a.a.a.a.a`, `[1]`, api.ErrSize},
		{`null`, `$.a.a.a.a.a.a`, `1`, api.ErrSize},
		{`null`, `$[0][0][0][0][0][0]`, `null`, api.ErrSize},
		{`null`, `$`, nested(5, "1"), api.OK},
		{`null`, `$.a`, nested(5, "1"), api.ErrSize},
		{`{"a":[]}`, `$.a[0]`, nested(3, "1"), api.OK},
		{`{"a":[]}`, `$.a[0]`, nested(4, "1"), api.ErrSize},
		{list(58), `$[58]`, `1`, api.OK},
		{list(59), `$[59]`, `1`, api.ErrSize},
		{list(59), `$[58]`, `[]`, api.OK},
		{list(59), `$[58]`, `[1]`, api.ErrSize},
		{list(59), `$`, list(59), api.OK},
		{`null`, `$.a`, list(58), api.OK},
		{`null`, `$.a`, list(59), api.ErrSize},
		{object("a", 58), `$.b`, `1`, api.OK},
		{object("a", 59), `$.b`, `1`, api.ErrSize},
		{object("a", 59), `$.a100`, `2`, api.OK},
		{`null`, `$` + long, `1`, api.OK},
	} {
		got, e := variant.Put(parsed(t, c.v), path(t, c.p), parsed(t, c.x))
		if e != c.want || shown(got) == "not valid" || e != api.OK && shown(got) != "null" {
			t.Errorf("Put(%s, %s, %s) = %s, %d", c.v, c.p, c.x, shown(got), e)
		}
	}
}

// P2.1; and what Put makes has no other parts than those of the value, the path and x.
func TestPutAndGet(t *testing.T) {
	d := dice(1)
	count := 0
	for range 6000 {
		v, p, x := d.value(), d.path(), d.value()
		got, e := variant.Put(v, p, x)
		if e != api.OK {
			check(t, "Put", got, e, "", e)
			continue
		}
		count++
		if at, ok, e := variant.Get(got, p); !ok || e != api.OK || !same(at, x) {
			t.Fatalf("Put(%s, %s, %s) = %s", shown(v), shownPath(p), shown(x), shown(got))
		}
		for _, q := range append(append(pathsOf(t, v), pathsOf(t, got)...), d.path(), d.path()) {
			if related(p, q) {
				continue
			}
			before, was, _ := variant.Get(v, q)
			after, is, _ := variant.Get(got, q)
			if was != is || !same(before, after) {
				t.Fatalf("Put(%s, %s, %s) = %s: changed at %s", shown(v), shownPath(p), shown(x), shown(got), shownPath(q))
			}
		}
	}
	if count < 2000 {
		t.Errorf("only %d were put", count)
	}
}

func TestRemove(t *testing.T) {
	for _, c := range []struct {
		v, p, want string
		e          api.Errno
	}{
		{`{"a":[1,2]}`, `$.a[0]`, `{"a":[2]}`, api.OK},
		{`{"a":[1,2]}`, `$.a[1]`, `{"a":[1]}`, api.OK},
		{`{"a":[1,2]}`, `$.a`, `{}`, api.OK},
		{`[1,2,3]`, `$[1]`, `[1,3]`, api.OK},
		{`[null]`, `$[0]`, `[]`, api.OK},
		{`{"a":1,"b":2,"c":3}`, `$.b`, `{"a":1,"c":3}`, api.OK},
		{`{"":null}`, `$[""]`, `{}`, api.OK},
		{`[{"a":{"b":1,"c":[[2]]}}]`, `$[0].a.c[0][0]`, `[{"a":{"b":1,"c":[[]]}}]`, api.OK},
		{`null`, `$`, ``, api.ErrArg},
		{`{"a":1}`, `$`, ``, api.ErrArg},
		{`null`, `$.a`, ``, api.ErrNone},
		{`{"a":1}`, `$.b`, ``, api.ErrNone},
		{`{"a":1}`, `$[0]`, ``, api.ErrNone},
		{`{"a":1}`, `$.a.b`, ``, api.ErrNone},
		{`{"a":null}`, `$.a[0]`, ``, api.ErrNone},
		{`[1]`, `$[1]`, ``, api.ErrNone},
		{`[1]`, `$.a`, ``, api.ErrNone},
		{`[]`, `$[0]`, ``, api.ErrNone},
		{`[[1]]`, `$[0][1]`, ``, api.ErrNone},
	} {
		got, e := variant.Remove(parsed(t, c.v), path(t, c.p))
		check(t, "Remove("+c.v+", "+c.p+")", got, e, c.want, c.e)
	}
}

// Remove takes the item out of the value above it, and leaves the rest as it is.
func TestRemoveAndGet(t *testing.T) {
	d := dice(2)
	for range 300 {
		v := d.value()
		for _, p := range pathsOf(t, v)[1:] {
			got, e := variant.Remove(v, p)
			last := len(p) - 1
			old, _, _ := variant.Get(v, p[:last])
			now, _, _ := variant.Get(got, p[:last])
			items, _ := variant.Flatten(now)
			var want []api.Leaf
			all, _ := variant.Flatten(old)
			for _, item := range all {
				if item.Path[0] == p[last] {
					continue
				}
				if old.Kind == api.KList && item.Path[0].Index > p[last].Index {
					item.Path[0].Index--
				}
				want = append(want, item)
			}
			if e != api.OK || now.Kind != old.Kind || !sameLeaves(items, want) {
				t.Fatalf("Remove(%s, %s) = %s, %d", shown(v), shownPath(p), shown(got), e)
			}
			if back, e := variant.Put(got, p[:last], old); e != api.OK || !same(back, v) {
				t.Fatalf("Remove(%s, %s) = %s: other parts changed", shown(v), shownPath(p), shown(got))
			}
		}
	}
}

// P2.4: a new item of an object, and a new last one of a list, at each list and object of a value.
func TestPutAndRemove(t *testing.T) {
	d := dice(3)
	count := 0
	for range 1000 {
		v := d.value()
		for _, above := range pathsOf(t, v) {
			holder, _, _ := variant.Get(v, above)
			if holder.Kind != api.KList && holder.Kind != api.KObject || len(above) == api.MaxPath {
				continue
			}
			p := append(append([]api.Step(nil), above...), key("aa"))
			if holder.Kind == api.KList {
				p[len(above)] = index(len(holder.Items))
			}
			more, e := variant.Put(v, p, d.value())
			if e != api.OK {
				continue
			}
			count++
			if back, e := variant.Remove(more, p); e != api.OK || !same(back, v) {
				t.Fatalf("Remove(%s, %s) = %s, %d; not %s", shown(more), shownPath(p), shown(back), e, shown(v))
			}
		}
	}
	if count < 1000 {
		t.Errorf("only %d were put", count)
	}
}
