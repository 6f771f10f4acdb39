package chunk_test

import (
	"strings"
	"testing"

	"cirrus/api"
	"cirrus/chunk"
)

func TestBestAndSizes(t *testing.T) {
	for _, c := range []struct {
		values string
		sizes  [4]int
		best   int
	}{
		{"[5,5]", [4]int{5, 4, 6, 3}, api.EDelta},
		{"[null,null,null]", [4]int{4, 3, 6, 0}, api.ERuns},
		{"[-1,true,\"a\"]", [4]int{8, 11, 12, 0}, api.EPlain},
		{`["aa","b","aa","b","aa","b"]`, [4]int{22, 28, 15, 0}, api.EDict},
		{"[1,2,3]", [4]int{7, 10, 11, 4}, api.EDelta},
		{"[8191,-2,8191,-2]", [4]int{11, 15, 11, 12}, api.EPlain}, // differences can be longer
		// Several with the fewest bytes.
		{"[]", [4]int{1, 1, 2, 1}, api.EPlain},
		{"[null,null]", [4]int{3, 3, 5, 0}, api.EPlain},
		{`["aa","bb","aa"]`, [4]int{13, 16, 13, 0}, api.EPlain},
		{"[8191,-2,8191]", [4]int{9, 12, 10, 9}, api.EPlain},
		{`["aa","aa","bb","bb","aa","aa"]`, [4]int{25, 16, 16, 0}, api.ERuns},
		{"[5,5,5]", [4]int{7, 4, 7, 4}, api.ERuns},
		{"[63,-63,63,-63,63,-63]", [4]int{13, 19, 12, 12}, api.EDict},
	} {
		l := values(t, c.values)
		if sizes, e := chunk.Sizes(l); sizes != c.sizes || e != api.OK {
			t.Errorf("Sizes(%s) = %v, %d; not %v", c.values, sizes, e, c.sizes)
		}
		want, _ := chunk.Pack(l, c.best)
		if enc, s, e := chunk.Best(l); enc != c.best || s != want || e != api.OK {
			t.Errorf("Best(%s) = %d, %q, %d; not %d, %q", c.values, enc, s, e, c.best, want)
		}
	}
}

// P5.2.
func TestNoneIsBetterThanBest(t *testing.T) {
	var found [5]int
	for _, l := range samples(3000) {
		best, bytes, e := chunk.Best(l)
		if e != api.OK {
			t.Fatalf("Best(%s): %d", shown(l), e)
		}
		found[best]++
		sizes, e := chunk.Sizes(l)
		if e != api.OK {
			t.Fatalf("Sizes(%s): %d", shown(l), e)
		}
		for _, enc := range encodings {
			s, e := chunk.Pack(l, enc)
			if sizes[enc-1] != len(s) {
				t.Errorf("Sizes(%s) = %v; %d bytes in encoding %d", shown(l), sizes, len(s), enc)
			}
			if enc == best && s != bytes || e == api.OK && (len(s) < len(bytes) || len(s) == len(bytes) && enc < best) {
				t.Errorf("Best(%s) = %d, %q; in encoding %d: %q", shown(l), best, bytes, enc, s)
			}
		}
	}
	for _, enc := range encodings {
		if found[enc] < 100 {
			t.Errorf("encoding %d was the best one %d times only", enc, found[enc])
		}
	}
}

// The largest values there are can be packed.
func TestBestOfLargest(t *testing.T) {
	long := strings.Repeat("~", api.MaxText)
	v := list()
	for range api.MaxNodes - 1 {
		v.Items = append(v.Items, text(long))
	}
	var l []api.Value
	for i := range api.MaxRows {
		one := twin([]api.Value{v})[0]
		one.Items[i%59] = number(i)
		l = append(l, one)
	}
	enc, s, e := chunk.Best(l)
	if enc != api.EPlain || e != api.OK {
		t.Fatalf("Best = %d, %d bytes, %d", enc, len(s), e)
	}
	if got, e := chunk.Unpack(s, enc); !same(got, l) || e != api.OK {
		t.Errorf("Unpack: %d values, %d", len(got), e)
	}
}
