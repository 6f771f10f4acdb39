package bag_test

import (
	"slices"
	"strings"
	"testing"

	"cirrus/api"
	"cirrus/bag"
)

// schema returns tables without rows: t has a column of each type, u others, wide as many as there can be.
func schema() []api.Table {
	return []api.Table{
		{Name: "t", Rows: api.Rows{Cols: typed("a:truth b:int c:text d:variant")}},
		{Name: "u", Rows: api.Rows{Cols: typed("e:int f:int")}},
		{Name: "v", Rows: api.Rows{Cols: typed("a:truth b:text c:text d:int")}},
		{Name: "w", Rows: api.Rows{Cols: typed("b:int a:truth c:text d:variant")}},
		{Name: "more", Rows: api.Rows{Cols: typed("g:int h:int i:int j:int k:int")}},
		{Name: "wide", Rows: api.Rows{Cols: typed("p:int q:int r:int s:int x:int y:int z:int")}},
	}
}

func TestCheck(t *testing.T) {
	for s, want := range map[string]string{
		"(scan t)":                    "a:truth b:int c:text d:variant",
		"(filter (eq b '1) (scan t))": "a:truth b:int c:text d:variant",
		"(project [(d b) (x (add b '1)) (y d) (z '1)] (scan t))":                                      "d:int x:variant y:variant z:variant",
		"(project [(y x)] (project [(x a)] (scan t)))":                                                "y:truth",
		"(project [(y x)] (project [(x (not a))] (scan t)))":                                          "y:variant",
		"(join (eq b e) (scan t) (scan u))":                                                           "a:truth b:int c:text d:variant e:int f:int",
		"(left (eq b e) (scan u) (scan t))":                                                           "e:int f:int a:truth b:int c:text d:variant",
		"(left 'true (scan u) (project [(x e) (y 'null)] (scan u)))":                                  "e:int f:int x:int y:variant",
		"(group [(x c) (y (neg b))] [(count n a) (sum s b) (min m b) (max o c) (many p d)] (scan t))": "x:text y:variant n:variant s:variant m:variant o:variant p:variant",
		"(group [] [(max b b)] (scan t))":                                                             "b:variant",
		"(group [(b b)] [] (scan t))":                                                                 "b:int",
		"(sort [(down d) (up (neg b))] (scan t))":                                                     "a:truth b:int c:text d:variant",
		"(limit 5 (scan u))":                                                                          "e:int f:int",
		"(distinct (scan u))":                                                                         "e:int f:int",
		"(union (scan t) (scan t))":                                                                   "a:truth b:int c:text d:variant",
		"(union (scan t) (scan v))":                                                                   "a:truth b:variant c:text d:variant",
		"(union (scan v) (scan t))":                                                                   "a:truth b:variant c:text d:variant",
		"(flatten x d (scan t))":                                                                      "a:truth b:int c:text d:variant x:variant x_at:variant",
		"(project [(z z) (f f)] (flatten z 'null (scan u)))":                                          "z:variant f:int",
		"(join 'true (scan t) (project [(g 'null) (h 'null) (i 'null) (j 'null)] (scan u)))":          "a:truth b:int c:text d:variant g:variant h:variant i:variant j:variant",
		"(flatten " + strings.Repeat("x", api.MaxName-3) + " e (scan u))":                             "e:int f:int " + strings.Repeat("x", api.MaxName-3) + ":variant " + strings.Repeat("x", api.MaxName-3) + "_at:variant",
	} {
		cols, e := bag.Check(parsed(t, s), schema())
		if shown(cols) != want || e != api.OK {
			t.Errorf("Check(%s) = %s, %d", s, shown(cols), e)
		}
		r, e := bag.Run(parsed(t, s), schema())
		if shown(r.Cols) != want || e != api.OK {
			t.Errorf("Run(%s) has columns %s, %d", s, shown(r.Cols), e)
		}
	}
}

func TestCheckErrors(t *testing.T) {
	const twice, none, size, differ = "(join 'true (scan t) (scan t))", "(scan x)", "(join 'true (scan t) (scan more))", "(union (scan t) (scan u))"
	long := strings.Repeat("x", api.MaxName-2)
	for s, want := range map[string]api.Errno{
		none:                                    api.ErrName,
		"(filter x (scan t))":                   api.ErrName,
		"(filter (if 'true a x) (scan t))":      api.ErrName,
		"(filter t (scan t))":                   api.ErrName,
		"(project [(a a) (x x)] (scan t))":      api.ErrName,
		"(project [(e a) (f e)] (scan t))":      api.ErrName,
		"(group [(x x)] [(sum s b)] (scan t))":  api.ErrName,
		"(group [(x b)] [(sum s x)] (scan t))":  api.ErrName,
		"(group [(x b)] [(sum s s)] (scan t))":  api.ErrName,
		"(sort [(up a) (down x)] (scan t))":     api.ErrName,
		"(flatten x x (scan t))":                api.ErrName,
		"(flatten x x_at (scan t))":             api.ErrName,
		"(join x (scan t) (scan u))":            api.ErrName,
		"(left x (scan t) (scan u))":            api.ErrName,
		"(filter b (project [(a b)] (scan t)))": api.ErrName,
		"(filter e (union (scan t) (scan t)))":  api.ErrName,
		// Columns of join and left may be of both.
		"(join (eq b f) (scan t) (scan u))": api.OK,
		"(left (eq b f) (scan t) (scan u))": api.OK,
		// The expressions of a join come before its columns.
		"(join x (scan t) (scan t))":                             api.ErrName,
		"(left x (scan t) (scan t))":                             api.ErrName,
		"(join a (scan t) (scan t))":                             api.ErrTwice,
		"(join x (scan t) (scan more))":                          api.ErrName,
		"(flatten a x (scan t))":                                 api.ErrName,
		twice:                                                    api.ErrTwice,
		"(left 'true (scan t) (scan t))":                         api.ErrTwice,
		"(join 'true (scan u) (project [(g f) (f f)] (scan u)))": api.ErrTwice,
		"(flatten d d (scan t))":                                 api.ErrTwice,
		"(flatten x x (flatten x d (scan t)))":                   api.ErrTwice,
		"(flatten x d (project [(d d) (x_at d)] (scan t)))":      api.ErrTwice,
		"(flatten x d (project [(x d) (d d)] (scan t)))":         api.ErrTwice,
		// A name that is there already comes before one that is no word, and that before too many columns.
		"(flatten " + long + " d (scan t))":                                       api.ErrForm,
		"(flatten " + long + "xx d (scan t))":                                     api.ErrForm,
		"(flatten " + long + "xx p (scan wide))":                                  api.ErrForm,
		"(flatten " + long + " p (project [(" + long + " p) (p p)] (scan wide)))": api.ErrTwice,
		"(flatten " + long + " x (scan t))":                                       api.ErrName,
		"(flatten p p (scan wide))":                                               api.ErrTwice,
		"(flatten m p (scan wide))":                                               api.ErrSize,
		size:                                                                      api.ErrSize,
		"(left 'true (scan t) (scan more))":                                       api.ErrSize,
		"(join 'true (scan wide) (scan wide))":                                    api.ErrTwice,
		differ:                                                                    api.ErrType,
		"(union (scan t) (scan w))":                                               api.ErrType,
		"(union (scan t) (project [(a a) (b b) (c c)] (scan t)))":                 api.ErrType,
		"(union (project [(a a) (b b) (c c)] (scan t)) (scan t))":                 api.ErrType,
		"(union (scan t) (project [(a a) (b b) (c c) (e d)] (scan t)))":           api.ErrType,
		// Kids from the left to the right, then the query itself.
		"(join x " + twice + " " + none + ")":                              api.ErrTwice,
		"(join x " + none + " " + twice + ")":                              api.ErrName,
		"(join x " + differ + " " + twice + ")":                            api.ErrType,
		"(union " + size + " " + differ + ")":                              api.ErrSize,
		"(union " + differ + " " + size + ")":                              api.ErrType,
		"(union (scan t) " + twice + ")":                                   api.ErrTwice,
		"(filter x " + size + ")":                                          api.ErrSize,
		"(project [(x x)] " + differ + ")":                                 api.ErrType,
		"(flatten " + long + " x " + twice + ")":                           api.ErrTwice,
		"(limit 0 (distinct (sort [(up a)] (filter 'true " + none + "))))": api.ErrName,
		"(group [] [(sum s x)] " + size + ")":                              api.ErrSize,
	} {
		cols, e := bag.Check(parsed(t, s), schema())
		if e != want || e != api.OK && len(cols) != 0 {
			t.Errorf("Check(%s) = %v, %d", s, cols, e)
		}
		r, e := bag.Run(parsed(t, s), schema())
		if e != want || e != api.OK && !noRows(r) {
			t.Errorf("Run(%s) = %v, %d", s, r, e)
		}
	}
}

// The errors of checking come before that of too many rows, also if these are in an earlier kid.
func TestCheckComesBeforeRows(t *testing.T) {
	tables := append(schema(), counting("n", "n", 200), counting("m", "m", 200))
	const large = "(join 'true (scan n) (scan m))"
	for s, want := range map[string]api.Errno{
		large:                                  api.ErrSize,
		"(join 'true " + large + " (scan x))":  api.ErrName,
		"(union " + large + " (scan n))":       api.ErrType,
		"(filter x " + large + ")":             api.ErrName,
		"(join 'true " + large + " (scan n))":  api.ErrTwice,
		"(limit 1 " + large + ")":              api.ErrSize,
		"(join 'false (scan t) " + large + ")": api.ErrSize,
	} {
		if r, e := bag.Run(parsed(t, s), tables); !noRows(r) || e != want {
			t.Errorf("Run(%s) = %d rows, %d", s, len(r.Rows), e)
		}
	}
}

func TestCheckMakesNewMemory(t *testing.T) {
	for _, s := range []string{"(scan t)", "(distinct (scan t))", "(union (scan t) (scan v))", "(join 'true (scan t) (scan u))", "(flatten x d (scan t))"} {
		tables, q := schema(), parsed(t, s)
		cols, _ := bag.Check(q, tables)
		want := slices.Clone(cols)
		again, _ := bag.Check(q, tables)
		for i := range again[:cap(again)] {
			again[:cap(again)][i] = api.Column{Name: "scribble"}
		}
		for i, table := range schema() {
			if !slices.Equal(tables[i].Rows.Cols, table.Rows.Cols) {
				t.Errorf("Check(%s) shares memory with the tables", s)
			}
		}
		if !slices.Equal(cols, want) || form(q) != s {
			t.Errorf("Check(%s): %v, not %v", s, cols, want)
		}
	}
}
