package value_test

import (
	"testing"

	"cirrus/api"
	"cirrus/value"
)

func compared(t *testing.T, a, b api.Value) int {
	t.Helper()
	c, e := value.Compare(a, b)
	if e != api.OK {
		t.Fatalf("Compare(%v, %v): %d", a, b, e)
	}
	return c
}

func sign(n int) int {
	return max(-1, min(n, 1))
}

func TestCompare(t *testing.T) {
	l := valid()
	for i, a := range l {
		for k, b := range l {
			if c := compared(t, a.v, b.v); c != sign(i-k) {
				t.Errorf("Compare(%s, %s) = %d", a.name, b.name, c)
			}
		}
	}
}

// Of two entries the keys decide before the items, and earlier entries before later ones.
func TestCompareObjects(t *testing.T) {
	for _, c := range []struct {
		a, b string
		want int
	}{
		{`{"a":9}`, `{"b":1}`, -1},
		{`{"a":1,"b":9}`, `{"a":2,"b":1}`, -1},
		{`{"a":1,"c":1}`, `{"a":1,"b":2}`, 1},
		{`{"a":1}`, `{"a":1,"b":2}`, -1},
		{`{"b":1}`, `{"a":1,"b":2}`, 1},
		{`{"a":2}`, `{"a":1,"b":1}`, 1},
		{`{"b":1,"a":2}`, `{"a":2,"b":1}`, 0},
	} {
		a, _ := value.Parse(c.a)
		b, _ := value.Parse(c.b)
		if got := compared(t, a, b); got != c.want {
			t.Errorf("Compare(%s, %s) = %d", c.a, c.b, got)
		}
	}
}

// P1.1.
func TestOrderIsTotal(t *testing.T) {
	l := several(t, 150)
	for _, a := range l {
		if c := compared(t, a, copied(a)); c != 0 {
			t.Errorf("Compare of %v and its copy = %d", a, c)
		}
		for _, b := range l {
			ab := compared(t, a, b)
			if ba := compared(t, b, a); ab != -ba || ab != sign(ab) {
				t.Errorf("Compare of %v and %v = %d, and the other way %d", a, b, ab, ba)
			}
			for _, c := range l {
				if ab <= 0 && compared(t, b, c) <= 0 && compared(t, a, c) > 0 {
					t.Fatalf("%v, %v, %v: not transitive", a, b, c)
				}
			}
		}
	}
}

// P1.4.
func TestEqualValuesAreTheSame(t *testing.T) {
	l := several(t, 600)
	for _, a := range l {
		for _, b := range l {
			if c := compared(t, a, b); (c == 0) != same(a, b) {
				t.Errorf("Compare(%v, %v) = %d", a, b, c)
			}
		}
	}
	empty := api.Value{Kind: api.KList, Items: []api.Value{}, Keys: []string{}}
	if c := compared(t, empty, list()); c != 0 {
		t.Errorf("Compare of lists without items = %d", c)
	}
}

// mixed returns the same list in another order, which depends on seed.
func mixed(l []api.Value, seed int) []api.Value {
	d := dice(seed)
	m := append([]api.Value(nil), l...)
	for i := range m {
		k := d.roll(i + 1)
		m[i], m[k] = m[k], m[i]
	}
	return m
}

func TestSort(t *testing.T) {
	var want []api.Value
	for _, s := range valid() {
		want = append(want, s.v)
	}
	for seed := range 20 {
		if got, e := value.Sort(mixed(want, seed)); !sameLists(got, want) || e != api.OK {
			t.Errorf("Sort, seed %d: %v, %d", seed, got, e)
		}
		if got, e := value.Distinct(mixed(append(want, want...), seed)); !sameLists(got, want) || e != api.OK {
			t.Errorf("Distinct, seed %d: %v, %d", seed, got, e)
		}
	}
	for _, l := range [][]api.Value{nil, {}} {
		if got, e := value.Sort(l); len(got) != 0 || e != api.OK {
			t.Errorf("Sort of nothing = %v, %d", got, e)
		}
		if got, e := value.Distinct(l); len(got) != 0 || e != api.OK {
			t.Errorf("Distinct of nothing = %v, %d", got, e)
		}
	}
}

func TestSortKeepsDuplicates(t *testing.T) {
	l := []api.Value{number(3), {}, number(3), truth(1), {}}
	if got, e := value.Sort(l); !sameLists(got, []api.Value{{}, {}, truth(1), number(3), number(3)}) || e != api.OK {
		t.Errorf("Sort = %v, %d", got, e)
	}
	if got, e := value.Distinct(l); !sameLists(got, []api.Value{{}, truth(1), number(3)}) || e != api.OK {
		t.Errorf("Distinct = %v, %d", got, e)
	}
}

// P1.3, and that Distinct is Sort without duplicates.
func TestSortDoesNotDependOnTheOrder(t *testing.T) {
	l := several(t, 300)
	sorted, _ := value.Sort(l)
	distinct, _ := value.Distinct(l)
	if len(sorted) != len(l) {
		t.Fatalf("Sort of %d values has %d", len(l), len(sorted))
	}
	var want []api.Value
	for i, v := range sorted {
		if i == 0 || compared(t, sorted[i-1], v) < 0 {
			want = append(want, v)
		} else if compared(t, sorted[i-1], v) > 0 {
			t.Fatalf("%v before %v", sorted[i-1], v)
		}
	}
	if !sameLists(distinct, want) {
		t.Errorf("Distinct is not Sort without duplicates")
	}
	for seed := range 20 {
		if got, e := value.Sort(mixed(l, seed)); !sameLists(got, sorted) || e != api.OK {
			t.Errorf("Sort, seed %d", seed)
		}
		if got, e := value.Distinct(mixed(l, seed)); !sameLists(got, distinct) || e != api.OK {
			t.Errorf("Distinct, seed %d", seed)
		}
	}
}

// scribble writes over all the memory of l.
func scribble(l []api.Value) {
	for i := range l {
		scribble(l[i].Items)
		for k := range l[i].Keys {
			l[i].Keys[k] = "scribble"
		}
		l[i] = text("scribble")
	}
}

// R5: arguments are left alone, and results share no memory with them or within themselves.
func TestSortMakesNewMemory(t *testing.T) {
	for name, sort := range map[string]func([]api.Value) ([]api.Value, api.Errno){"Sort": value.Sort, "Distinct": value.Distinct} {
		part := object([]string{"a", "b"}, list(number(1)), number(2))
		l := []api.Value{list(part, part), part, number(1), part}
		before := copiedList(l)
		got, _ := sort(l)
		if !sameLists(l, before) {
			t.Errorf("%s changes its argument", name)
		}
		want := copiedList(got)
		scribble(l)
		if !sameLists(got, want) {
			t.Errorf("%s: the result shares memory with the argument", name)
		}
		for i := range got {
			scribble(got[i].Items)
			for k := range got[i].Keys {
				got[i].Keys[k] = "scribble"
			}
			if !sameLists(got[i+1:], want[i+1:]) {
				t.Errorf("%s: values of the result share memory", name)
			}
		}
	}
}

// The copies of a part that occurs twice within one value are apart, too.
func TestSortMakesPartsApart(t *testing.T) {
	part := list(number(1))
	got, _ := value.Sort([]api.Value{list(part, part)})
	got[0].Items[0].Items[0] = number(2)
	if !same(got[0].Items[1], list(number(1))) {
		t.Error("two items share memory")
	}
}
