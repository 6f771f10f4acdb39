package value_test

import (
	"strings"
	"testing"

	"cirrus/api"
	"cirrus/value"
)

func TestValid(t *testing.T) {
	for _, s := range valid() {
		if !value.Valid(s.v) {
			t.Errorf("%s is not valid", s.name)
		}
	}
	for _, s := range invalid() {
		if value.Valid(s.v) {
			t.Errorf("%s is valid", s.name)
		}
	}
}

func TestValidAtTheLimits(t *testing.T) {
	for name, v := range map[string]api.Value{
		"the greatest depth":    nested(api.MaxDepth),
		"a leaf at that depth":  list(list(list(list(list(number(1)))))),
		"the most nodes":        wide(api.MaxNodes),
		"the most nodes below":  list(wide(30), wide(29)),
		"the most in an object": object([]string{"a", "b"}, wide(30), wide(29)),
		"all bytes of a text":   text(" !~"),
	} {
		if !value.Valid(v) {
			t.Errorf("%s: not valid", name)
		}
	}
}

// An empty slice is the same as a nil one (R4), whatever its capacity.
func TestValidWithEmptySlices(t *testing.T) {
	for kind := api.KNull; kind <= api.KObject; kind++ {
		v := api.Value{Kind: kind, Items: make([]api.Value, 0, 3), Keys: make([]string, 0, 3)}
		if !value.Valid(v) {
			t.Errorf("kind %d with empty slices is not valid", kind)
		}
	}
}

func TestSize(t *testing.T) {
	for _, c := range []struct {
		v            api.Value
		nodes, depth int
	}{
		{api.Value{}, 1, 1},
		{truth(1), 1, 1},
		{number(5), 1, 1},
		{text("abc"), 1, 1},
		{list(), 1, 1},
		{object(nil), 1, 1},
		{object([]string{"a"}, list(number(1), api.Value{})), 4, 3},
		{list(list(list()), number(1), list(number(2))), 6, 3},
		{list(number(1), list(list(list()))), 5, 4},
		{nested(api.MaxDepth), api.MaxDepth, api.MaxDepth},
		{wide(api.MaxNodes), api.MaxNodes, 2},
	} {
		if nodes, depth, e := value.Size(c.v); nodes != c.nodes || depth != c.depth || e != api.OK {
			t.Errorf("Size(%v) = %d, %d, %d; not %d, %d", c.v, nodes, depth, e, c.nodes, c.depth)
		}
	}
	for _, s := range invalid() {
		if nodes, depth, e := value.Size(s.v); nodes != 0 || depth != 0 || e != api.ErrForm {
			t.Errorf("Size of %s = %d, %d, %d", s.name, nodes, depth, e)
		}
	}
}

func TestFits(t *testing.T) {
	types := []int{api.TTruth, api.TInt, api.TText, api.TVariant}
	for _, c := range []struct {
		v    api.Value
		fits string // for each type of the above: whether it fits
	}{
		{api.Value{}, "yyyy"},
		{truth(0), "ynny"},
		{truth(1), "ynny"},
		{number(1), "nyny"},
		{text("1"), "nnyy"},
		{list(), "nnny"},
		{object(nil), "nnny"},
	} {
		for i, typ := range types {
			if got := value.Fits(c.v, typ); got != (c.fits[i] == 'y') {
				t.Errorf("Fits(%v, %d) = %t", c.v, typ, got)
			}
		}
		for _, typ := range []int{-1, 0, 5, 6, 1 << 62, -1 << 63} {
			if value.Fits(c.v, typ) {
				t.Errorf("Fits(%v, %d), which is not a type", c.v, typ)
			}
		}
	}
	for _, s := range invalid() {
		for typ := range 6 {
			if value.Fits(s.v, typ) {
				t.Errorf("%s fits type %d", s.name, typ)
			}
		}
	}
}

func TestNumber(t *testing.T) {
	for _, n := range []int{0, 1, -1, 42, api.MaxInt, -api.MaxInt} {
		if v, e := value.Number(n); !same(v, number(n)) || e != api.OK {
			t.Errorf("Number(%d) = %v, %d", n, v, e)
		}
	}
	for _, n := range []int{api.MaxInt + 1, -api.MaxInt - 1, 1<<63 - 1, -1 << 63} {
		if v, e := value.Number(n); !same(v, api.Value{}) || e != api.ErrArg {
			t.Errorf("Number(%d) = %v, %d", n, v, e)
		}
	}
}

func TestWord(t *testing.T) {
	for _, s := range []string{"a", "z", "a0", "a9", "a_", "az", "a_9_z", strings.Repeat("a", api.MaxName)} {
		if !value.Word(s) {
			t.Errorf("%q is no word", s)
		}
	}
	for _, s := range []string{
		"", "0", "9a", "_", "_a", "A", "aA", "aZ", "a b", " a", "a ", "a-b", "a/", "a:", "a`", "a{", "`", "{", "a^", "a\x00", "a\n",
		"ä", "aä", "a\xff", strings.Repeat("a", api.MaxName+1), strings.Repeat("a", 1000),
	} {
		if value.Word(s) {
			t.Errorf("%q is a word", s)
		}
	}
	for c := range 256 {
		small := 'a' <= c && c <= 'z'
		if got := value.Word(string([]byte{byte(c)})); got != small {
			t.Errorf("Word of byte %d = %t", c, got)
		}
		if got := value.Word(string([]byte{'a', byte(c)})); got != (small || '0' <= c && c <= '9' || c == '_') {
			t.Errorf("Word of a and byte %d = %t", c, got)
		}
	}
}

// Cycles must neither be followed without end nor make anything panic (R1); every function refuses them as any invalid value (R2), with zero values (R3).
func TestInvalidArguments(t *testing.T) {
	for _, s := range invalid() {
		good := number(1)
		for _, pair := range [][2]api.Value{{s.v, good}, {good, s.v}, {s.v, s.v}} {
			if c, e := value.Compare(pair[0], pair[1]); c != 0 || e != api.ErrForm {
				t.Errorf("%s: Compare = %d, %d", s.name, c, e)
			}
		}
		if got, e := value.Text(s.v); got != "" || e != api.ErrForm {
			t.Errorf("%s: Text = %q, %d", s.name, got, e)
		}
		for _, l := range [][]api.Value{{s.v}, {good, s.v}, {s.v, good}, {good, s.v, good}} {
			if got, e := value.Sort(l); len(got) != 0 || e != api.ErrForm {
				t.Errorf("%s: Sort = %v, %d", s.name, got, e)
			}
			if got, e := value.Distinct(l); len(got) != 0 || e != api.ErrForm {
				t.Errorf("%s: Distinct = %v, %d", s.name, got, e)
			}
		}
	}
}
