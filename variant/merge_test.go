package variant_test

import (
	"maps"
	"reflect"
	"testing"

	"cirrus/api"
	"cirrus/variant"
)

func TestMerge(t *testing.T) {
	for _, c := range []struct {
		a, b, want string
	}{
		{`{"a":1,"b":2}`, `{"a":null,"c":3}`, `{"b":2,"c":3}`},
		{`{"a":1}`, `{}`, `{"a":1}`},
		{`{"a":1}`, `2`, `2`},
		{`{"a":1}`, `null`, `null`},
		{`{"a":1}`, `[{"a":null}]`, `[{"a":null}]`},
		{`[1]`, `{}`, `{}`},
		{`null`, `{"a":null}`, `{}`},
		{`1`, `{"a":{"b":null}}`, `{"a":{}}`},
		{`1`, `{"a":{"b":null,"c":{"d":null}},"e":[null]}`, `{"a":{"c":{}},"e":[null]}`},
		{`{"a":null}`, `{}`, `{"a":null}`},
		{`{"a":null}`, `{"a":null}`, `{}`},
		{`{"a":null,"b":1}`, `{"b":2}`, `{"a":null,"b":2}`},
		{`{"a":1}`, `{"b":null}`, `{"a":1}`},
		{`{"a":{"x":1,"y":2},"b":3}`, `{"a":{"x":null,"z":4}}`, `{"a":{"y":2,"z":4},"b":3}`},
		{`{"a":{"x":1}}`, `{"a":[1]}`, `{"a":[1]}`},
		{`{"a":[1]}`, `{"a":{"x":1,"y":null}}`, `{"a":{"x":1}}`},
		{`{"a":5}`, `{"a":{"x":{"y":1}}}`, `{"a":{"x":{"y":1}}}`},
		{`{"b":1,"d":2}`, `{"a":1,"c":1,"e":1}`, `{"a":1,"b":1,"c":1,"d":2,"e":1}`},
	} {
		got, e := variant.Merge(parsed(t, c.a), parsed(t, c.b))
		check(t, "Merge("+c.a+", "+c.b+")", got, e, c.want, api.OK)
	}
}

func TestPatch(t *testing.T) {
	for _, c := range []struct {
		a, b, want string
		e          api.Errno
	}{
		{`{"a":1}`, `{"b":{"c":2}}`, `{"a":null,"b":{"c":2}}`, api.OK},
		{`{}`, `{"a":null}`, ``, api.ErrArg},
		{`{"a":1}`, `{"a":null}`, ``, api.ErrArg},
		{`{}`, `{"a":{"b":null}}`, ``, api.ErrArg},
		{`{"a":1}`, `{"a":{"b":null}}`, ``, api.ErrArg},
		{`{"a":{}}`, `{"a":{"b":null}}`, ``, api.ErrArg},
		{`1`, `{"a":null}`, ``, api.ErrArg},
		{`[]`, `{"a":{"b":null}}`, ``, api.ErrArg},
		{`{"a":null}`, `{"a":null,"b":1}`, `{"b":1}`, api.OK},
		{`{"a":{"b":null}}`, `{"a":{"b":null,"c":1}}`, `{"a":{"c":1}}`, api.OK},
		{`{"a":null}`, `{}`, `{"a":null}`, api.OK},
		{`{"a":null}`, `{"a":1}`, `{"a":1}`, api.OK},
		{`{"a":[1]}`, `{"a":[1,null]}`, `{"a":[1,null]}`, api.OK},
		{`{}`, `{"a":[{"b":null}]}`, `{"a":[{"b":null}]}`, api.OK},
		{`1`, `2`, `2`, api.OK},
		{`1`, `1`, `1`, api.OK},
		{`[1]`, `[1]`, `[1]`, api.OK},
		{`{"a":1}`, `null`, `null`, api.OK},
		{`null`, `null`, `null`, api.OK},
		{`{"a":1}`, `[{"a":null}]`, `[{"a":null}]`, api.OK},
		{`null`, `{"a":1}`, `{"a":1}`, api.OK},
		{`{"a":1}`, `{}`, `{"a":null}`, api.OK},
		{`{}`, `{}`, `{}`, api.OK},
		{`{"a":1,"b":null}`, `{"a":1,"b":null}`, `{}`, api.OK},
		{`{"a":{"x":1,"y":2},"b":3}`, `{"a":{"y":2,"z":4},"b":3}`, `{"a":{"x":null,"z":4}}`, api.OK},
		{`{"a":{"x":1}}`, `{"a":{}}`, `{"a":{"x":null}}`, api.OK},
		{`{"a":{"x":1}}`, `{"a":5}`, `{"a":5}`, api.OK},
		{`{"a":5}`, `{"a":{}}`, `{"a":{}}`, api.OK},
		{`{"b":1,"d":1}`, `{"a":1,"b":2,"c":1,"e":1}`, `{"a":1,"b":2,"c":1,"d":null,"e":1}`, api.OK},
	} {
		got, e := variant.Patch(parsed(t, c.a), parsed(t, c.b))
		check(t, "Patch("+c.a+", "+c.b+")", got, e, c.want, c.e)
	}
}

func TestMergeLimits(t *testing.T) {
	for _, c := range []struct {
		a, b string
		e    api.Errno
	}{
		{object("a", 30), object("b", 29), api.OK},
		{object("a", 30), object("b", 30), api.ErrSize},
		{object("a", 59), object("a", 59), api.OK},
		{object("a", 59), `{"b":1}`, api.ErrSize},
		{object("a", 59), `{"a100":null,"b":1}`, api.OK},
		{object("a", 59), `{"b":null}`, api.OK},
		{`{"x":` + object("a", 29) + `}`, `{"x":` + object("b", 29) + `}`, api.OK},
		{`{"x":` + object("a", 30) + `}`, `{"x":` + object("b", 29) + `}`, api.ErrSize},
		{list(59), object("b", 59), api.OK},
		{object("a", 59), list(59), api.OK},
	} {
		got, e := variant.Merge(parsed(t, c.a), parsed(t, c.b))
		if e != c.e || shown(got) == "not valid" || e != api.OK && shown(got) != "null" {
			t.Errorf("Merge(%s, %s) = %s, %d", c.a, c.b, shown(got), e)
		}
	}
}

// ErrSize comes before ErrArg.
func TestPatchLimits(t *testing.T) {
	for _, c := range []struct {
		a, b string
		e    api.Errno
	}{
		{object("a", 30), object("b", 29), api.OK},
		{object("a", 30), object("b", 30), api.ErrSize},
		{object("a", 59), object("a", 59), api.OK},
		{object("a", 59), `{}`, api.OK},
		{object("a", 59), `{"b":1}`, api.ErrSize},
		{object("a", 58), `{"b":null}`, api.ErrArg},
		{object("a", 59), `{"b":null}`, api.ErrSize},
		{`{}`, object("a", 59), api.OK},
		{list(59), object("b", 59), api.OK},
		{object("a", 59), list(59), api.OK},
		{nested(5, "1"), `{"a":{"a":{"a":{"a":{"a":1}}}}}`, api.OK},
		{`{"a":{"a":{"a":{"a":{"a":1}}}}}`, `{"a":{"a":{"a":{"a":{}}}}}`, api.OK},
	} {
		got, e := variant.Patch(parsed(t, c.a), parsed(t, c.b))
		if e != c.e || shown(got) == "not valid" || e != api.OK && shown(got) != "null" {
			t.Errorf("Patch(%s, %s) = %s, %d", c.a, c.b, shown(got), e)
		}
	}
}

// plainMerge and plainPatch are the document's definitions, on maps.
func plainMerge(a, b any) any {
	changes, ok := b.(map[string]any)
	if !ok {
		return b
	}
	made := map[string]any{}
	if old, ok := a.(map[string]any); ok {
		maps.Copy(made, old)
	}
	for key, item := range changes {
		if item == nil {
			delete(made, key)
		} else {
			made[key] = plainMerge(made[key], item)
		}
	}
	return made
}

func plainPatch(a, b any) any {
	old, oldOk := a.(map[string]any)
	now, nowOk := b.(map[string]any)
	if !oldOk || !nowOk {
		return b
	}
	p := map[string]any{}
	for key := range old {
		p[key] = nil
	}
	for key, item := range now {
		was, there := old[key]
		if there && reflect.DeepEqual(was, item) {
			delete(p, key)
		} else {
			p[key] = plainPatch(was, item)
		}
	}
	return p
}

// changed returns a value that is v in many parts.
func (d *dice) changed(v api.Value) api.Value {
	for range d.roll(4) {
		x := d.value()
		if d.roll(6) == 0 {
			x = api.Value{}
		}
		next, e := variant.Put(v, d.path(), x)
		if d.roll(3) == 0 {
			next, e = variant.Remove(v, d.path())
		}
		if e == api.OK {
			v = next
		}
	}
	return v
}

// P2.3, where there is a patch; and that there is none only where the definition says so.
func TestMergeOfPatch(t *testing.T) {
	d := dice(7)
	counts := map[api.Errno]int{}
	for range 10000 {
		a := d.value()
		b := d.changed(a)
		p, e := variant.Patch(a, b)
		counts[e]++
		want := plainPatch(plain(t, a), plain(t, b))
		if e == api.ErrSize {
			continue
		}
		if possible := reflect.DeepEqual(plainMerge(plain(t, a), want), plain(t, b)); possible != (e == api.OK) {
			t.Fatalf("Patch(%s, %s): %d", shown(a), shown(b), e)
		}
		if e != api.OK {
			check(t, "Patch", p, e, "", api.ErrArg)
			continue
		}
		if shown(p) != plainText(t, want) {
			t.Fatalf("Patch(%s, %s) = %s", shown(a), shown(b), shown(p))
		}
		if got, e := variant.Merge(a, p); e != api.OK || !same(got, b) {
			t.Fatalf("Merge(%s, %s) = %s, %d; not %s", shown(a), shown(p), shown(got), e, shown(b))
		}
	}
	if counts[api.OK] < 3000 || counts[api.ErrArg] < 300 {
		t.Errorf("how often each error came: %v", counts)
	}
}

// P2.3: nothing must be merged into an object to make it itself.
func TestPatchOfTheSame(t *testing.T) {
	d := dice(8)
	for range 2000 {
		v := d.value()
		want := "{}"
		if v.Kind != api.KObject {
			want = shown(v)
		}
		got, e := variant.Patch(v, v)
		check(t, "Patch of "+shown(v)+" and itself", got, e, want, api.OK)
	}
}

func TestMergeOfMany(t *testing.T) {
	d := dice(9)
	for range 10000 {
		a := d.value()
		b := d.changed(a)
		got, e := variant.Merge(a, b)
		if want := plainText(t, plainMerge(plain(t, a), plain(t, b))); e == api.OK && shown(got) != want {
			t.Fatalf("Merge(%s, %s) = %s, not %s", shown(a), shown(b), shown(got), want)
		}
		if e != api.OK && e != api.ErrSize {
			t.Fatalf("Merge(%s, %s): %d", shown(a), shown(b), e)
		}
	}
}
