package part_test

import (
	"strings"
	"testing"

	"cirrus/api"
	"cirrus/part"
)

// P6.4.
func TestColumn(t *testing.T) {
	for _, r := range append(samples(1000), rowsOf(t, "b:text a:int "+strings.Repeat("n", 24)+":variant", `5 ["x",1,{"a":[]}]`, `2 [null,null,null]`)) {
		s := packed(t, r)
		for i, c := range r.Cols {
			want := columnAt(r, i)
			if l, e := part.Column(s, c.Name); forms(l) != forms(want) || e != api.OK {
				t.Errorf("Column(%s, %s) = %s, %d; not %s", shown(r), c.Name, forms(l), e, forms(want))
			}
		}
		if l, e := part.Column(s, "no_such"); len(l) != 0 || e != api.ErrName {
			t.Errorf("Column(%s, no_such) = %s, %d", shown(r), forms(l), e)
		}
	}
}

func TestColumnErrors(t *testing.T) {
	good := packed(t, rowsOf(t, "a:int bc:int", "3 [7,8]"))
	for _, c := range []struct {
		bytes, name string
		want        api.Errno
	}{
		{good, "", api.ErrForm}, {good, "A", api.ErrForm}, {good, "1", api.ErrForm}, {good, "a ", api.ErrForm}, {good, strings.Repeat("a", 25), api.ErrForm},
		{"", "", api.ErrForm}, {good + "x", "A", api.ErrForm},
		{"", "a", api.ErrSum}, {good + "x", "a", api.ErrSum}, {good[1:], "d", api.ErrSum},
		{good, "b", api.ErrName}, {good, "c", api.ErrName}, {good, "ab", api.ErrName}, {good, "a_", api.ErrName}, {good, strings.Repeat("a", 24), api.ErrName},
	} {
		if l, e := part.Column(c.bytes, c.name); len(l) != 0 || e != c.want {
			t.Errorf("Column(%q, %q) = %s, %d; not %d", c.bytes, c.name, forms(l), e, c.want)
		}
	}
}
