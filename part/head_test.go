package part_test

import (
	"slices"
	"strconv"
	"strings"
	"testing"

	"cirrus/api"
	"cirrus/part"
	"cirrus/value"
	"cirrus/variant"
)

func TestStat(t *testing.T) {
	for l, want := range map[string]string{
		"[]":                      "0 0 null null",
		"[null]":                  "1 1 null null",
		"[null,null,null]":        "3 3 null null",
		"[7]":                     "1 0 7 7",
		"[null,7]":                "2 1 7 7",
		"[7,null]":                "2 1 7 7",
		"[3,null,-2,10,9,-2]":     "6 1 -2 10",
		"[-2,-10,-9]":             "3 0 -10 -2",
		`["b","10","9","a"]`:      `4 0 "10" "b"`,
		`["ab","a",""]`:           `3 0 "" "ab"`,
		"[false]":                 "1 0 false false",
		"[true,false,true]":       "3 0 false true",
		`["",0,false,null]`:       `4 1 false ""`,
		"[{},[],[[]],{}]":         "4 0 [] {}",
		`[[2,null],[2],[1,3]]`:    "3 0 [1,3] [2,null]",
		`[{"a":2},{"a":1},null]`:  `3 1 {"a":1} {"a":2}`,
		"[1000000000000,\"\",-1]": `3 0 -1 ""`,
	} {
		if got, e := part.Stat(values(t, l)); shownStat(got) != want || e != api.OK {
			t.Errorf("Stat(%s) = %s, %d; not %s", l, shownStat(got), e, want)
		}
	}
	if got, e := part.Stat([]api.Value{}); !noStat(got) || e != api.OK {
		t.Errorf("Stat of an empty slice = %s, %d", shownStat(got), e)
	}
	most := columnAt(counting(api.MaxRows), 0)
	slices.Reverse(most)
	if got, e := part.Stat(most); shownStat(got) != "200 0 0 199" || e != api.OK {
		t.Errorf("Stat of the most values = %s, %d", shownStat(got), e)
	}
}

func TestStatErrors(t *testing.T) {
	if s, e := part.Stat(make([]api.Value, api.MaxRows+1)); !noStat(s) || e != api.ErrForm {
		t.Errorf("Stat of too many = %s, %d", shownStat(s), e)
	}
	for i, v := range invalid() {
		for _, l := range [][]api.Value{{v}, {number(1), v}, {v, {}}} {
			if s, e := part.Stat(l); !noStat(s) || e != api.ErrForm {
				t.Errorf("Stat of invalid value %d = %s, %d", i, shownStat(s), e)
			}
		}
	}
}

func TestHead(t *testing.T) {
	for _, c := range []struct {
		rows api.Rows
		want string
	}{
		{rowsOf(t, "a:int", "3 [7]"), "a:2; 1 3 3; 1 0 7 7 | "},
		{rowsOf(t, "a:int", "1000000000 [null]"), "a:2; 1 1000000000 1000000000; 1 1 null null | "},
		// The numbers need not rise.
		{rowsOf(t, "b:text a:truth", `5 ["x",null]`, `9 [null,true]`, `2 ["a",false]`, `7 ["b",null]`), `b:3 a:1; 4 2 9; 4 1 "a" "x"; 4 2 false true | `},
		{rowsOf(t, "v:variant", `1 [{"k":1}]`, `2 [{"k":"x"}]`, `3 [null]`), `v:4; 3 1 3; 3 1 {"k":1} {"k":"x"} | 0 $.k 3 1 1 "x"`},
		{rowsOf(t, "v:variant n:int w:variant", `1 [{"k":1},2,{"k":3,"a":4}]`), `v:4 n:2 w:4; 1 1 1; 1 0 {"k":1} {"k":1}; 1 0 2 2; 1 0 {"a":4,"k":3} {"a":4,"k":3} | 0 $.k 1 0 1 1; 2 $.a 1 0 4 4; 2 $.k 1 0 3 3`},
	} {
		if got, e := part.Head(c.rows); shownHead(got) != c.want || e != api.OK {
			t.Errorf("Head(%s) = %s, %d; not %s", shown(c.rows), shownHead(got), e, c.want)
		}
	}
}

func TestPaths(t *testing.T) {
	for _, c := range []struct{ vals, want string }{
		// Only what is neither null, nor a list, nor an object.
		{`[1,"a",true,null,[],{},[1],[{"a":1}]]`, ""},
		{`[{"a":null},{"a":[]},{"a":{}},{"a":[1]},{"a":[{"b":1}]},{"a":{"b":null}},{"a":{"b":[2]}},{"a":{"b":{}}}]`, ""},
		{`[{"a":false,"b":0,"c":"","d":{"e":false}}]`, `0 $.a 1 0 false false; 0 $.b 1 0 0 0; 0 $.c 1 0 "" ""; 0 $.d.e 1 0 false false`},
		// Only one or two keys.
		{`[{"a":{"b":{"c":1},"d":2}},{"a":{"e":[3]}},[{"f":4}]]`, "0 $.a.d 3 2 2 2"},
		// If there is one such value, the others count, whatever they are.
		{`[{"a":5},{"a":[1]},{"a":null},{},7,[{"a":3}],{"a":{}}]`, "0 $.a 7 4 5 {}"},
		{`[{"a":{"b":1}},{"a":2},{"a":{"b":[]}},{"a":{"b":-1}}]`, `0 $.a 4 0 2 {"b":[]}; 0 $.a.b 4 1 -1 []`},
		// The order of paths is not that of their textual forms.
		{`[{"a":1,"A":2,"":3," ":4,"ab":5}]`, `0 $[""] 1 0 3 3; 0 $[" "] 1 0 4 4; 0 $["A"] 1 0 2 2; 0 $.a 1 0 1 1; 0 $.ab 1 0 5 5`},
		{`[{"a":{"z":1}},{"a ":2},{"a":3},{"a0":4},{"a":{"":5}}]`, `0 $.a 5 2 3 {"z":1}; 0 $.a[""] 5 4 5 5; 0 $.a.z 5 4 1 1; 0 $["a "] 5 4 2 2; 0 $.a0 5 4 4 4`},
		// Keys that look like paths.
		{`[{"a.b":1,"a":{"b":2},"[0]":3,"\"":4,"\\":5}]`, `0 $["\""] 1 0 4 4; 0 $["[0]"] 1 0 3 3; 0 $["\\"] 1 0 5 5; 0 $.a.b 1 0 2 2; 0 $["a.b"] 1 0 1 1`},
		// At most so many: the first ones.
		{`[{"i":9,"h":8,"g":7,"f":6},{"e":5,"d":4,"c":3,"b":2,"a":1}]`, "0 $.a 2 1 1 1; 0 $.b 2 1 2 2; 0 $.c 2 1 3 3; 0 $.d 2 1 4 4; 0 $.e 2 1 5 5; 0 $.f 2 1 6 6; 0 $.g 2 1 7 7; 0 $.h 2 1 8 8"},
		{`[{"b":{"a":1,"b":2,"c":3,"d":4},"a":{"a":5,"b":6,"c":7,"d":8},"c":9}]`, "0 $.a.a 1 0 5 5; 0 $.a.b 1 0 6 6; 0 $.a.c 1 0 7 7; 0 $.a.d 1 0 8 8; 0 $.b.a 1 0 1 1; 0 $.b.b 1 0 2 2; 0 $.b.c 1 0 3 3; 0 $.b.d 1 0 4 4"},
	} {
		r := api.Rows{Cols: typed("v:variant")}
		for i, v := range values(t, c.vals) {
			r.Rows = append(r.Rows, api.Row{Id: i + 1, Vals: []api.Value{v}})
		}
		if h, e := part.Head(r); shownPaths(h.Paths) != c.want || e != api.OK {
			t.Errorf("paths of %s: %s, %d; not %s", c.vals, shownPaths(h.Paths), e, c.want)
		}
	}
}

// Each column has as many paths as there can be, not all together.
func TestPathsOfColumns(t *testing.T) {
	wide := api.Value{Kind: api.KObject}
	for i := range api.MaxNodes - 1 {
		wide.Keys = append(wide.Keys, "k"+strconv.Itoa(10+i))
		wide.Items = append(wide.Items, number(i))
	}
	r := rowsOf(t, "a:variant b:int c:variant d:variant", "1 [null,1,null,null]", "2 [null,null,null,null]")
	r.Rows[0].Vals[0], r.Rows[0].Vals[3] = wide, wide
	h, e := part.Head(r)
	if e != api.OK || len(h.Paths) != 2*api.MaxPaths {
		t.Fatalf("Head: %d paths, %d", len(h.Paths), e)
	}
	for i, p := range h.Paths {
		want := "$.k" + strconv.Itoa(10+i%api.MaxPaths)
		if path, _ := variant.PathText(p.Path); p.Col != i/api.MaxPaths*3 || path != want || shownStat(p.Stat) != strings.ReplaceAll("2 1 N N", "N", strconv.Itoa(i%api.MaxPaths)) {
			t.Errorf("path %d: column %d, %s, %s", i, p.Col, path, shownStat(p.Stat))
		}
	}
}

func TestHeadAsDefined(t *testing.T) {
	paths, many := 0, 0
	for _, r := range samples(3000) {
		h, e := part.Head(r)
		if want := shownHead(definedHead(r)); shownHead(h) != want || e != api.OK {
			t.Errorf("Head(%s) = %s, %d; not %s", shown(r), shownHead(h), e, want)
		}
		paths += len(h.Paths)
		if len(h.Paths) >= api.MaxPaths {
			many++
		}
		for i := range r.Cols {
			l := columnAt(r, i)
			if s, e := part.Stat(l); shownStat(s) != shownStat(h.Stats[i]) || e != api.OK {
				t.Errorf("Stat(%s) = %s, %d; not %s", forms(l), shownStat(s), e, shownStat(h.Stats[i]))
			}
		}
	}
	if paths < 5000 || many < 300 {
		t.Errorf("only %d paths, %d times many", paths, many)
	}
}

// outside reports whether a value is less than Min or greater than Max.
func outside(v api.Value, s api.Stat) bool {
	low, _ := value.Compare(v, s.Min)
	high, _ := value.Compare(v, s.Max)
	return v.Kind != api.KNull && (low < 0 || high > 0)
}

// P6.2.
func TestWithin(t *testing.T) {
	for _, r := range samples(2000) {
		h, e := part.Head(r)
		if e != api.OK {
			t.Fatalf("Head(%s): %d", shown(r), e)
		}
		for _, row := range r.Rows {
			if row.Id < h.First || row.Id > h.Last {
				t.Errorf("%d is not within %s", row.Id, shownHead(h))
			}
			for i, v := range row.Vals {
				if outside(v, h.Stats[i]) {
					t.Errorf("%s is not within %s", form(v), shownStat(h.Stats[i]))
				}
			}
			for _, p := range h.Paths {
				if v, _, e := variant.Get(row.Vals[p.Col], p.Path); outside(v, p.Stat) || e != api.OK {
					t.Errorf("%s is not within %s", form(v), shownPaths([]api.PathStat{p}))
				}
			}
		}
	}
}

func TestHeadErrors(t *testing.T) {
	for i, r := range badRows() {
		if h, e := part.Head(r); !noHead(h) || e != api.ErrForm {
			t.Errorf("Head of bad rows %d = %s, %d", i, shownHead(h), e)
		}
	}
}

// The results share no memory with the argument, with one another, or within themselves.
func TestHeadMakesNewMemory(t *testing.T) {
	one := rowsOf(t, "v:variant", `1 [{"a":[1,{"b":2}],"c":3}]`, `2 [{"a":5,"c":{"d":"x"}}]`)
	for _, r := range append(samples(300), one) {
		m := memory{}
		// Values of an argument may share memory; it is only noted.
		m.rows(r)
		for range 2 {
			h, _ := part.Head(r)
			s, _ := part.Stat(columnAt(r, 0))
			if !m.head(h) || !m.stat(s) {
				t.Errorf("results of %s share memory", shown(r))
			}
		}
	}
}
