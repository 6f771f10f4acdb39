package zone_test

import (
	"slices"
	"testing"

	"cirrus/api"
	"cirrus/expr"
	"cirrus/zone"
)

// The examples of the chapter.
func TestExamples(t *testing.T) {
	for _, c := range []struct{ head, x, truths, verdict string }{
		{"a:int 1 [2,5]", "(gt a '5)", "FN", "never"}, {"a:int 1 [2,5]", "(ge a '2)", "TN", "perhaps"}, {"a:int 1 [2,5]", "(or (null a) (ge a '2))", "TN", "perhaps"},
		{"a:int 0 [2,5]", "(lt (add a '1) '7)", "T", "always"}, {"a:int 0 [2,5]", "(eq a '\"x\")", "F", "never"}, {"a:int 1 [2,5]", "(eq a '\"x\")", "FN", "never"},
	} {
		h, x := headOf(t, c.head), parsed(t, c.x)
		if got := shownZone(zoneOf(t, h, x)); got != c.truths {
			t.Errorf("Zone of %s = %s, not %s", c.x, got, c.truths)
		}
		if got := verdictOf(t, h, x); got != c.verdict {
			t.Errorf("Verdict of %s = %s, not %s", c.x, got, c.verdict)
		}
	}
}

// zones returns what the truths of expressions can be for the head mixed.
func zones() map[string]string {
	return map[string]string{
		"'true": "T", "'false": "F", "'null": "N", "'1": "N", "'\"true\"": "N", "'[true]": "N", "(list)": "N", "(cast truth '1)": "T", "(cast truth '0)": "F", "(lt c '\"x\")": "N",
		"a": "N", "n": "N", "z": "N", "s": "N", "t": "TF", "u": "TN", "v": "N", "(get $.l.m v)": "TN", "(get $.l v)": "N", "(get $.k v)": "N", "(get $.m v)": "TFN", "(mul a a)": "TFN", "(cast truth a)": "TFN", "(add a '1)": "N", "(add a z)": "N",
		"(if t t 'true)": "TF", "(if t 'true 'true)": "T", "(if t 'true z)": "TN", "(if t 'false 'true)": "TF", "(if t 'false '9)": "TFN", "(if t 'true '9)": "TN", "(if t 'false z)": "FN", "(if t '\"x\" '9)": "N", "(first u 'false)": "TF", "(first u 'true)": "T", "(first u '5)": "TN", "(first (mul a a) '1)": "TFN", "(first z t)": "TF",
		"(has $.k v)": "TF", "(has $.k c)": "F", "(like s s)": "TFN", "(like a a)": "TFN", "(like z s)": "TFN", "(like '\"a\" '\"a\")": "T", "(null a)": "F", "(null n)": "TF", "(null z)": "T", "(null (mul a a))": "TF", "(null (first (mul a a) '1))": "F", "(null t)": "F",

		"(eq a '1)": "F", "(eq a '2)": "TF", "(eq a '5)": "TF", "(eq a '6)": "F", "(eq '1 a)": "F", "(eq '6 a)": "F", "(eq '5 a)": "TF", "(eq n '6)": "FN", "(eq n '2)": "TFN", "(eq c '7)": "T", "(eq c (if t '7 z))": "TN", "(eq z a)": "N", "(eq a z)": "N", "(eq z (mul a a))": "N", "(eq (mul a a) a)": "TFN", "(eq a (first (mul a a) '1))": "TF", "(eq n (first (mul a a) '1))": "TFN",
		"(eq a s)": "F", "(eq a v)": "TF", "(eq v '1)": "F", "(eq v '{\"y\":1})": "F", "(eq v '\"x\")": "TF", "(eq v 'true)": "F", "(eq t 'true)": "TF", "(eq t '1)": "F", "(eq s '\"c\")": "TF", "(eq s '\"a\")": "F", "(eq s '\"da\")": "F",
		"(ne a '1)": "T", "(ne a '2)": "TF", "(ne n '6)": "TN", "(ne c '7)": "F", "(ne c (if t '7 z))": "FN", "(ne a s)": "T", "(ne a z)": "N", "(ne (mul a a) a)": "TFN", "(ne a (first (mul a a) '1))": "TF",
		"(lt a '2)": "F", "(lt a '3)": "TF", "(lt a '5)": "TF", "(lt a '6)": "T", "(le a '1)": "F", "(le a '2)": "TF", "(le a '4)": "TF", "(le a '5)": "T", "(gt a '5)": "F", "(gt a '4)": "TF", "(gt a '2)": "TF", "(gt a '1)": "T", "(ge a '6)": "F", "(ge a '5)": "TF", "(ge a '3)": "TF", "(ge a '2)": "T",
		"(lt n '6)": "TN", "(lt n '2)": "FN", "(lt n '3)": "TFN", "(lt a z)": "N", "(lt z a)": "N", "(lt z z)": "N", "(ge z (mul a a))": "N", "(lt a a)": "TF", "(lt a n)": "TFN", "(lt c a)": "F", "(lt a c)": "T", "(ge c a)": "T",
		"(lt s '\"b\")": "F", "(lt s '\"ba\")": "TF", "(lt s '\"e\")": "T", "(ge s '\"b\")": "T", "(gt s '\"d\")": "F", "(lt t 'true)": "TF", "(lt t 'false)": "F", "(le t 'true)": "T", "(lt 'false u)": "TN", "(gt t u)": "FN",
		"(lt a s)": "TFN", "(le a s)": "TFN", "(gt a s)": "TFN", "(ge a s)": "TFN", "(lt v '1)": "TFN", "(lt v v)": "TFN", "(gt v '{\"z\":1})": "TFN", "(lt t '5)": "TFN", "(lt a 'true)": "TFN", "(lt (mul a a) '1)": "TFN", "(le a (first (mul a a) '1))": "TFN", "(lt (if t '[1] '[2]) '[3])": "TFN", "(lt (if t '{} '[2]) '[3])": "TFN", "(lt a (if t 'true '3))": "TFN", "(lt (if t 'true '3) a)": "TFN", "(lt a (if t '3 '\"x\"))": "TFN", "(lt (if t '3 '\"x\") a)": "TFN", "(lt (if t 'true '3) s)": "TFN",

		"(same a a)": "TF", "(same a '9)": "F", "(same c '7)": "T", "(same n '9)": "F", "(same n z)": "TF", "(same n n)": "TF", "(same a z)": "F", "(same z a)": "F", "(same z z)": "T", "(same (if t c z) c)": "TF", "(same c (if t c z))": "TF", "(same (mul a a) a)": "TF", "(same (mul a a) z)": "TF", "(same n '3)": "TF", "(same a s)": "F", "(same a 'null)": "F", "(same n 'null)": "TF", "(same (first (mul a a) '1) z)": "F",
		"(in a '1)": "F", "(in a '1 '6)": "F", "(in a '1 '2)": "TF", "(in a '2 '1)": "TF", "(in n '1 '6)": "FN", "(in a '1 z)": "N", "(in a z '1)": "N", "(in a '2 z)": "TN", "(in z a '1)": "N", "(in c '1 '7)": "T", "(in c a '7)": "T", "(in c '7 n)": "T", "(in c n '7)": "T", "(in c n '8)": "FN", "(in c a n)": "FN", "(in a a a)": "TF", "(in a '1 (mul a a))": "TFN", "(in a '1 '\"x\" '[])": "F", "(in c '1 (if t '7 z))": "TN",
	}
}

func TestZone(t *testing.T) {
	h := mixed(t)
	for s, want := range zones() {
		got := shownZone(zoneOf(t, h, parsed(t, s)))
		if got != want {
			t.Errorf("Zone of %s = %s, not %s", s, got, want)
		}
		if v := verdictOf(t, h, parsed(t, s)); v != shownVerdict(got) {
			t.Errorf("Verdict of %s = %s", s, v)
		}
	}
}

// set is values that a column can have.
type set []api.Value

// sets lists all sets of values between two of these, with null or without, and that of null alone.
func sets(l ...api.Value) []set {
	all := []set{{{}}}
	for i := range l {
		for k := i + 1; k <= len(l); k++ {
			all = append(all, slices.Clone(l[i:k]), append(set{{}}, l[i:k]...))
		}
	}
	return all
}

// stat returns the statistics of two values for a column that can have the values of the set.
func (s set) stat() api.Stat {
	switch {
	case len(s) == 1 && isNull(s[0]):
		return api.Stat{Rows: 2, Nulls: 2}
	case isNull(s[0]):
		return api.Stat{Rows: 2, Nulls: 1, Min: s[1], Max: s[len(s)-1]}
	}
	return api.Stat{Rows: 2, Min: s[0], Max: s[len(s)-1]}
}

// Where all that lies between the bounds is known, and each kid is another column, the possible truths are exactly those that there are.
func TestExact(t *testing.T) {
	truths := sets(truth(0), truth(1))
	ints := sets(number(-2), number(-1), number(0), number(1), number(2))
	for _, c := range []struct {
		typ  int
		sets []set
		ops  []string
	}{
		{api.TTruth, truths, []string{"not", "and", "or", "null", "eq", "ne", "lt", "le", "gt", "ge", "same", "in", "if", "first"}},
		{api.TInt, ints, []string{"null", "eq", "ne", "lt", "le", "gt", "ge", "same", "in", "add", "sub", "neg"}},
		{api.TInt, sets(number(api.MaxInt-1), number(api.MaxInt)), []string{"add", "sub", "neg", "eq", "lt"}},
		{api.TInt, sets(number(-api.MaxInt), number(-api.MaxInt+1)), []string{"add", "sub", "neg", "eq", "ge"}},
	} {
		for _, a := range c.sets {
			for _, b := range c.sets {
				for _, name := range c.ops {
					exactly(t, c.typ, a, b, name)
				}
			}
		}
	}
}

// exactly fails the test unless the operation over two columns with these values has exactly the possible truths, and is exactly
// between the bounds, that it has for them.
func exactly(t *testing.T, typ int, a, b set, name string) {
	t.Helper()
	cols := []api.Column{{Name: "a", Type: typ}, {Name: "b", Type: typ}}
	h := api.Head{Cols: cols, Rows: 2, First: 1, Last: 2, Stats: []api.Stat{a.stat(), b.stat()}}
	x := op(name, col("a"), col("b"))
	switch name {
	case "not", "null", "neg":
		x = op(name, col("a"))
	case "if":
		x = op(name, col("a"), col("b"), constant(truth(0)))
	}
	var want api.Zone
	var span api.Span
	for _, v := range a {
		for _, w := range b {
			got, e := expr.Eval(cols, []api.Value{v, w}, x)
			if e != api.OK {
				t.Fatalf("Eval: %d", e)
			}
			want, span = both(want, truthOf(got)), union(span, exact(got))
		}
	}
	if got := zoneOf(t, h, x); got != want {
		t.Errorf("Zone(%s, %s) = %s, not %s", shownHead(h), exprForm(x), shownZone(got), shownZone(want))
	}
	if got := spanOf(t, h, x); shownSpan(got) != shownSpan(span) {
		t.Errorf("Of(%s, %s) = %s, not %s", shownHead(h), exprForm(x), shownSpan(got), shownSpan(span))
	}
}

func TestSplit(t *testing.T) {
	l := []api.Head{headOf(t, "a:int 0 [2,5]"), headOf(t, "a:int 0 [9,9]"), headOf(t, "b:text 3", "a:int 1 [7,8]"), headOf(t, "a:int 3"), headOf(t, "a:variant 0 [4,4]"), headOf(t, "a:text 0 [\"\",\"x\"]")}
	for s, want := range map[string][2][]int{
		"(ge a '4)": {{0, 1, 2, 4, 5}, {1, 4}}, "(gt a '5)": {{1, 2, 5}, {1}}, "(null a)": {{2, 3}, {3}}, "'true": {{0, 1, 2, 3, 4, 5}, {0, 1, 2, 3, 4, 5}}, "'false": {}, "a": {}, "(not (eq a '9))": {{0, 2, 4, 5}, {0, 4, 5}},
	} {
		some, all, e := zone.Split(l, parsed(t, s))
		if e != api.OK || !slices.Equal(some, want[0]) || !slices.Equal(all, want[1]) {
			t.Errorf("Split(%s) = %v, %v, %d; not %v", s, some, all, e, want)
		}
	}
	if some, all, e := zone.Split(nil, col("a")); e != api.OK || len(some)+len(all) > 0 {
		t.Errorf("Split of no heads = %v, %v, %d", some, all, e)
	}
}

func TestSplitErrors(t *testing.T) {
	a, b := headOf(t, "a:int 3"), headOf(t, "b:int 3")
	full := slices.Repeat([]api.Head{a}, api.MaxRows)
	if some, all, e := zone.Split(full, parsed(t, "(null a)")); e != api.OK || len(some) != api.MaxRows || len(all) != api.MaxRows || some[api.MaxRows-1] != api.MaxRows-1 {
		t.Errorf("Split of %d heads = %d, %d, %d", len(full), len(some), len(all), e)
	}
	for i, c := range []struct {
		l []api.Head
		x api.Expr
		e api.Errno
	}{
		{append(full, a), col("a"), api.ErrForm}, {append(full, a), col("z"), api.ErrForm}, {nil, op("not"), api.ErrForm}, {nil, col("z"), api.OK},
		{[]api.Head{a, b}, col("a"), api.ErrName}, {[]api.Head{b, a}, col("a"), api.ErrName}, {[]api.Head{a, a}, col("a"), api.OK},
		{[]api.Head{b, {}}, col("a"), api.ErrForm}, {[]api.Head{{}, b}, col("a"), api.ErrForm}, {[]api.Head{a, {}}, col("a"), api.ErrForm}, {[]api.Head{b}, op("not"), api.ErrForm},
	} {
		some, all, e := zone.Split(c.l, c.x)
		if e != c.e || len(some)+len(all) > 0 {
			t.Errorf("%d: Split = %v, %v, %d; want %d", i, some, all, e, c.e)
		}
	}
}

// Split is Verdict of each head.
func TestSplitIsVerdict(t *testing.T) {
	d := dice(3)
	for range 500 {
		var l []api.Head
		for range d.roll(10) {
			l = append(l, d.head())
		}
		x := d.expr()
		var some, all []int
		for i, h := range l {
			switch verdictOf(t, h, x) {
			case "always":
				some, all = append(some, i), append(all, i)
			case "perhaps":
				some = append(some, i)
			}
		}
		got, gotAll, e := zone.Split(l, x)
		if e != api.OK || !slices.Equal(got, some) || !slices.Equal(gotAll, all) {
			t.Errorf("Split(%s) = %v, %v, %d; not %v, %v", exprForm(x), got, gotAll, e, some, all)
		}
	}
}
