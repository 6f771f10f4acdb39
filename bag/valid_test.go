package bag_test

import (
	"slices"
	"strings"
	"testing"

	"cirrus/api"
	"cirrus/bag"
)

func TestValid(t *testing.T) {
	for _, s := range valid() {
		if !bag.Valid(s.q) {
			t.Errorf("%s: not valid", s.name)
		}
	}
	for _, s := range invalid() {
		if bag.Valid(s.q) {
			t.Errorf("%s: valid", s.name)
		}
	}
}

func TestInvalidQueries(t *testing.T) {
	tables := []api.Table{counting("t", "a", 2)}
	for _, s := range invalid() {
		if cols, e := bag.Check(s.q, tables); len(cols) != 0 || e != api.ErrForm {
			t.Errorf("Check, %s: %v, %d", s.name, cols, e)
		}
		if r, e := bag.Run(s.q, tables); !noRows(r) || e != api.ErrForm {
			t.Errorf("Run, %s: %v, %d", s.name, r, e)
		}
		if l, e := bag.Tables(s.q); len(l) != 0 || e != api.ErrForm {
			t.Errorf("Tables, %s: %v, %d", s.name, l, e)
		}
		if form, e := bag.Text(s.q); form != "" || e != api.ErrForm {
			t.Errorf("Text, %s: %s, %d", s.name, form, e)
		}
	}
}

func TestValidRows(t *testing.T) {
	most := counting("t", "a", api.MaxRows).Rows
	most.Rows[0].Id, most.Rows[1].Id = api.MaxId, api.MaxId
	for _, r := range []api.Rows{
		most,
		{Cols: typed("a:truth")},
		{Cols: typed("h:int g:int f:int e:int d:int c:int b:int a:int")},
		{Cols: typed(strings.Repeat("a", api.MaxName) + ":variant"), Rows: []api.Row{}},
		table(t, "t", "a:truth b:int c:text d:variant", "[true,1,\"\",{}]", "[null,null,null,null]", "[false,-1,\"a\",\"a\"]").Rows,
		{Cols: typed("a:int"), Rows: slices.Repeat([]api.Row{{Id: 5, Vals: []api.Value{number(1)}}}, 3)},
	} {
		if !bag.ValidRows(r) {
			t.Errorf("not valid: %v", r)
		}
	}
	for i, r := range badRows() {
		if bag.ValidRows(r) {
			t.Errorf("bad rows %d: valid", i)
		}
	}
}

// Tables must be valid and have different words as names, whether the query scans them or not.
func TestInvalidTables(t *testing.T) {
	good := counting("t", "a", 2)
	lists := [][]api.Table{
		{good, {Name: "T", Rows: good.Rows}}, {good, {Rows: good.Rows}}, {good, good}, {good, counting("u", "b", 1), good},
		{good, counting(strings.Repeat("a", api.MaxName+1), "a", 1)}, {good, counting("t u", "b", 1)}, {good, {Name: "u"}}, {{}, good},
	}
	for _, r := range badRows() {
		lists = append(lists, []api.Table{good, {Name: "u", Rows: r}}, []api.Table{{Name: "t", Rows: r}})
	}
	for i, tables := range lists {
		for _, q := range []api.Query{scan("t"), scan("u"), scan("nothing")} {
			if cols, e := bag.Check(q, tables); len(cols) != 0 || e != api.ErrForm {
				t.Errorf("Check, tables %d: %v, %d", i, cols, e)
			}
			if r, e := bag.Run(q, tables); !noRows(r) || e != api.ErrForm {
				t.Errorf("Run, tables %d: %v, %d", i, r, e)
			}
		}
	}
	if _, e := bag.Check(scan("t"), []api.Table{counting("u", "a", 0), good, counting(strings.Repeat("a", api.MaxName), "a", 1)}); e != api.OK {
		t.Errorf("Check with good tables: %d", e)
	}
}

func TestTables(t *testing.T) {
	for s, want := range map[string]string{
		"(scan t)":                                                          "t",
		"(limit 0 (filter 'false (scan u)))":                                "u",
		"(union (scan t) (scan t))":                                         "t",
		"(join 'true (scan t) (union (scan b) (scan t)))":                   "b t",
		"(left t (union (scan c) (scan b)) (flatten z y (scan a)))":         "a b c",
		"(union (scan t10) (union (scan t9) (union (scan t_) (scan t1))))":  "t1 t10 t9 t_",
		"(group [(x y)] [(sum z y)] (sort [(up w)] (distinct (scan abc))))": "abc",
	} {
		if l, e := bag.Tables(parsed(t, s)); strings.Join(l, " ") != want || e != api.OK {
			t.Errorf("Tables(%s) = %v, %d", s, l, e)
		}
	}
}
