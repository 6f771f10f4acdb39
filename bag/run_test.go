package bag_test

import (
	"slices"
	"strings"
	"testing"

	"cirrus/api"
	"cirrus/bag"
	"cirrus/value"
)

func samples(t *testing.T) []api.Table {
	t.Helper()
	return []api.Table{
		table(t, "t", "a:int b:int", "[1,5]", "[2,null]", "[1,7]"),
		table(t, "u", "c:variant", `[[4,{}]]`, `[null]`, `[{"k":2}]`, `[3]`, `[{}]`, `[{"A b":[],"x":null}]`, `[[]]`, `["ab"]`),
		table(t, "v", "x:variant", "[true]", `["a"]`, "[3]", "[null]", "[-2]", "[[1]]", "[{}]", "[3]", "[false]", `["B"]`),
		table(t, "w", "k:text n:int", `["b",1]`, `["a",2]`, `[null,3]`, `["b",4]`, `["a",5]`, `["b",6]`, `[null,7]`, `["b",1]`),
		table(t, "big", "n:int", "[1000000000000]", "[1000000000000]", "[-1000000000000]"),
		table(t, "none", "a:int b:int"),
	}
}

func TestRun(t *testing.T) {
	for s, want := range map[string]string{
		"(scan t)":    "[1,5][2,null][1,7]",
		"(scan none)": "",
		// A condition holds if it is the truth 1, and for nothing else.
		"(filter (gt b '4) (scan t))":                         "[1,5][1,7]",
		"(filter 'true (scan t))":                             "[1,5][2,null][1,7]",
		"(filter 'false (scan t))":                            "",
		"(filter 'null (scan t))":                             "",
		"(filter a (scan t))":                                 "",
		"(filter (not (gt b '4)) (scan t))":                   "",
		"(filter x (scan v))":                                 "[true]",
		"(project [(b a)] (scan t))":                          "[1][2][1]",
		"(project [(x b) (y (add a b)) (z '\"z\")] (scan t))": `[5,6,"z"][null,null,"z"][7,8,"z"]`,
		"(project [(x 'null)] (scan none))":                   "",
		"(limit 0 (scan t))":                                  "",
		"(limit 1 (scan t))":                                  "[1,5]",
		"(limit 3 (scan t))":                                  "[1,5][2,null][1,7]",
		"(limit 20000 (scan t))":                              "[1,5][2,null][1,7]",
		"(distinct (scan t))":                                 "[1,5][2,null][1,7]",
		"(distinct (project [(a a)] (scan t)))":               "[1][2]",
		"(distinct (scan v))":                                 `[true]["a"][3][null][-2][[1]][{}][false]["B"]`,
		"(distinct (scan w))":                                 `["b",1]["a",2][null,3]["b",4]["a",5]["b",6][null,7]`,
		"(distinct (project [(k k)] (scan w)))":               `["b"]["a"][null]`,
		"(distinct (scan none))":                              "",
		"(union (scan t) (scan t))":                           "[1,5][2,null][1,7][1,5][2,null][1,7]",
		"(union (scan none) (limit 1 (scan t)))":              "[1,5]",
		"(union (limit 1 (scan t)) (scan none))":              "[1,5]",
		"(union (project [(b a)] (scan t)) (project [(b (list b))] (scan t)))": "[1][2][1][[5]][[null]][[7]]",
	} {
		checkRun(t, s, want)
	}
}

func checkRun(t *testing.T, s, want string) {
	t.Helper()
	r, e := bag.Run(parsed(t, s), samples(t))
	if lists(r) != want || e != api.OK {
		t.Errorf("%s = %s, %d; not %s", s, lists(r), e, want)
	}
	for _, row := range r.Rows {
		if row.Id != 0 {
			t.Errorf("%s: a row with the number %d", s, row.Id)
		}
	}
}

func TestSorts(t *testing.T) {
	for s, want := range map[string]string{
		"(sort [(up x)] (scan v))":                        `[null][false][true][-2][3][3]["B"]["a"][[1]][{}]`,
		"(sort [(down x)] (scan v))":                      `[{}][[1]]["a"]["B"][3][3][-2][true][false][null]`,
		"(sort [(up k)] (scan w))":                        `[null,3][null,7]["a",2]["a",5]["b",1]["b",4]["b",6]["b",1]`,
		"(sort [(down k)] (scan w))":                      `["b",1]["b",4]["b",6]["b",1]["a",2]["a",5][null,3][null,7]`,
		"(sort [(up k) (down n)] (scan w))":               `[null,7][null,3]["a",5]["a",2]["b",6]["b",4]["b",1]["b",1]`,
		"(sort [(down k) (up n)] (scan w))":               `["b",1]["b",1]["b",4]["b",6]["a",2]["a",5][null,3][null,7]`,
		"(sort [(up (mod n '3)) (down k)] (scan w))":      `["b",6][null,3]["b",1]["b",4]["b",1][null,7]["a",2]["a",5]`,
		"(sort [(up '1)] (scan w))":                       `["b",1]["a",2][null,3]["b",4]["a",5]["b",6][null,7]["b",1]`,
		"(sort [(down '1)] (scan t))":                     "[1,5][2,null][1,7]",
		"(sort [(up n)] (sort [(down k)] (scan w)))":      `["b",1]["b",1]["a",2][null,3]["b",4]["a",5]["b",6][null,7]`,
		"(sort [(down (neg a))] (scan t))":                "[1,5][1,7][2,null]",
		"(sort [(up a) (up a) (down b) (up b)] (scan t))": "[1,7][1,5][2,null]",
		"(sort [(up a)] (scan none))":                     "",
	} {
		checkRun(t, s, want)
	}
}

// Rows with the same keys keep their order, also if there are many rows.
func TestSortIsStable(t *testing.T) {
	tables := []api.Table{counting("a", "a", 200)}
	for _, direction := range []string{"up", "down"} {
		r := ran(t, parsed(t, "(sort [("+direction+" (mod a '3))] (scan a))"), tables)
		for i := 1; i < len(r.Rows); i++ {
			a, b := r.Rows[i-1].Vals[0].Int, r.Rows[i].Vals[0].Int
			if a%3 == b%3 && a >= b || direction == "up" && a%3 > b%3 || direction == "down" && a%3 < b%3 {
				t.Errorf("%s: %d before %d", direction, a, b)
			}
		}
	}
}

func TestJoins(t *testing.T) {
	const other = "(project [(c (add a '1))] (scan t))"
	for s, want := range map[string]string{
		"(join (eq a c) (scan t) " + other + ")":        "[2,null,2][2,null,2]",
		"(left (eq a c) (scan t) " + other + ")":        "[1,5,null][2,null,2][2,null,2][1,7,null]",
		"(join 'true (scan t) " + other + ")":           "[1,5,2][1,5,3][1,5,2][2,null,2][2,null,3][2,null,2][1,7,2][1,7,3][1,7,2]",
		"(join 'null (scan t) " + other + ")":           "",
		"(join a (scan t) " + other + ")":               "",
		"(left 'false (scan t) " + other + ")":          "[1,5,null][2,null,null][1,7,null]",
		"(join (lt a c) (scan t) " + other + ")":        "[1,5,2][1,5,3][1,5,2][2,null,3][1,7,2][1,7,3][1,7,2]",
		"(left (gt a '1) (scan t) " + other + ")":       "[1,5,null][2,null,2][2,null,3][2,null,2][1,7,null]",
		"(left (gt c '2) (scan t) " + other + ")":       "[1,5,3][2,null,3][1,7,3]",
		"(left 'true (scan t) (limit 0 " + other + "))": "[1,5,null][2,null,null][1,7,null]",
		"(join 'true (scan t) (limit 0 " + other + "))": "",
		"(left 'true (scan none) " + other + ")":        "",
		"(join 'true (scan none) " + other + ")":        "",
		"(left 'false " + other + " (scan t))":          "[2,null,null][3,null,null][2,null,null]",
		// Nulls are not eq, but they are the same.
		"(join (eq b c) (scan t) (project [(c b)] (scan t)))":                  "[1,5,5][1,7,7]",
		"(join (same b c) (scan t) (project [(c b)] (scan t)))":                "[1,5,5][2,null,null][1,7,7]",
		"(left (eq b c) (scan t) (project [(c b)] (scan t)))":                  "[1,5,5][2,null,null][1,7,7]",
		"(join (eq c b) (scan t) (project [(c b)] (scan t)))":                  "[1,5,5][1,7,7]",
		"(join (eq (add a '1) c) (scan t) " + other + ")":                      "[1,5,2][1,5,2][2,null,3][1,7,2][1,7,2]",
		"(join (and (eq a '1) (eq '3 c)) (scan t) " + other + ")":              "[1,5,3][1,7,3]",
		"(join (and (eq a (sub c '1)) (gt b '5)) (scan t) " + other + ")":      "[1,7,2][1,7,2]",
		"(join (or (eq a c) (eq b '7)) (scan t) " + other + ")":                "[2,null,2][2,null,2][1,7,2][1,7,3][1,7,2]",
		"(join (not (eq a c)) (scan t) " + other + ")":                         "[1,5,2][1,5,3][1,5,2][2,null,3][1,7,2][1,7,3][1,7,2]",
		"(join (eq (eq a c) 'false) (scan t) " + other + ")":                   "[1,5,2][1,5,3][1,5,2][2,null,3][1,7,2][1,7,3][1,7,2]",
		"(join (eq (add a c) '3) (scan t) " + other + ")":                      "[1,5,2][1,5,2][1,7,2][1,7,2]",
		"(join (eq b (add a c)) (scan t) (project [(c (mul a '4))] (scan t)))": "[1,5,4][1,5,4]",
		"(join (eq a b) (scan t) " + other + ")":                               "",
		"(join (and 'null (eq a c)) (scan t) " + other + ")":                   "",
		"(join (and a (eq a c)) (scan t) " + other + ")":                       "",
	} {
		checkRun(t, s, want)
	}
}

func TestGroups(t *testing.T) {
	const all = "[(count n b) (many m b) (min x b) (max y b) (sum s b)]"
	for s, want := range map[string]string{
		"(group [(a a)] [(sum s b)] (scan t))":                                       "[1,12][2,null]",
		"(group [] [(count n b) (many m a) (max x b)] (scan t))":                     "[2,2,7]",
		"(group [(a a)] " + all + " (scan t))":                                       "[1,2,2,5,7,12][2,0,0,null,null,null]",
		"(group [] " + all + " (scan t))":                                            "[2,2,5,7,12]",
		"(group [] " + all + " (scan none))":                                         "[0,0,null,null,null]",
		"(group [(a a)] " + all + " (scan none))":                                    "",
		"(group [(a 'null)] [] (scan none))":                                         "",
		"(group [(a 'null)] [] (scan t))":                                            "[null]",
		"(group [(b b) (a a)] [] (scan t))":                                          "[null,2][5,1][7,1]",
		"(group [(a a) (b b)] [] (union (scan t) (scan t)))":                         "[1,5][1,7][2,null]",
		"(group [(x x)] [(count n '1)] (scan v))":                                    `[null,1][false,1][true,1][-2,1][3,2]["B",1]["a",1][[1],1][{},1]`,
		"(group [] [(count n x) (many m x) (min a x) (max b x) (sum s x)] (scan v))": "[9,8,false,{},4]",
		"(group [] [(count n '1) (count m 'null)] (scan v))":                         "[10,0]",
		"(group [(k k)] [(count c '1) (sum s n) (many m n)] (scan w))":               `[null,2,10,2]["a",2,7,2]["b",4,12,3]`,
		"(group [(p (mod n '2))] [(max x k) (min y k)] (scan w))":                    `[0,"b","a"][1,"b","a"]`,
		"(group [(k k)] [] (scan w))":                                                `[null]["a"]["b"]`,
		"(group [] [(sum s n)] (scan big))":                                          "[1000000000000]",
		"(group [] [(sum s n)] (limit 2 (scan big)))":                                "[null]",
		"(group [] [(sum s (neg n))] (limit 2 (scan big)))":                          "[null]",
		"(project [(x (null s))] (group [] [(sum s n)] (limit 2 (scan big))))":       "[true]",
		"(group [] [(sum s (neg n))] (limit 1 (scan big)))":                          "[-1000000000000]",
		"(group [] [(sum s x)] (filter (ne x '3) (scan v)))":                         "[-2]",
		"(group [] [(sum s x)] (filter (eq (kind x) '\"text\") (scan v)))":           "[null]",
		"(group [] [(sum s (sub n n))] (scan big))":                                  "[0]",
		"(group [] [(min x x) (max y x)] (filter (eq (kind x) '\"text\") (scan v)))": `["B","a"]`,
	} {
		checkRun(t, s, want)
	}
}

func TestFlattens(t *testing.T) {
	for s, want := range map[string]string{
		"(flatten x c (scan u))": `[[4,{}],4,0][[4,{}],{},1][{"k":2},2,"k"][{"A b":[],"x":null},[],"A b"][{"A b":[],"x":null},null,"x"]`,
		"(project [(i x) (k x_at)] (flatten x (list a b) (scan t)))": "[1,0][5,1][2,0][null,1][1,0][7,1]",
		"(flatten x a (scan t))":          "",
		"(flatten x 'null (scan t))":      "",
		"(flatten x '{} (scan t))":        "",
		"(flatten x '[[]] (scan none))":   "",
		"(flatten x '{\"y\":9} (scan t))": `[1,5,9,"y"][2,null,9,"y"][1,7,9,"y"]`,
		"(flatten y x (flatten x c (limit 1 (project [(c (list c c))] (scan u)))))": `[[[4,{}],[4,{}]],[4,{}],0,4,0][[[4,{}],[4,{}]],[4,{}],0,{},1][[[4,{}],[4,{}]],[4,{}],1,4,0][[[4,{}],[4,{}]],[4,{}],1,{},1]`,
	} {
		checkRun(t, s, want)
	}
}

// Lists of values of rows may be deeper and larger than a value can be.
func TestLargeValues(t *testing.T) {
	large := "[" + strings.Repeat("1,", api.MaxNodes-2)
	rows := []string{"[[[[[9]]]]]", large + "2]", "[[[[[8]]]]]", large + "1]", "[[[[[9]]]]]", large + "2]"}
	made := api.Table{Name: "t", Rows: api.Rows{Cols: typed("a:variant b:int")}}
	for i, s := range rows {
		v, e := value.Parse(s)
		if e != api.OK {
			t.Fatalf("value.Parse(%s): %d", s, e)
		}
		made.Rows.Rows = append(made.Rows.Rows, api.Row{Id: i, Vals: []api.Value{v, number(i % 4)}})
	}
	order := func(l ...int) string {
		s := ""
		for _, i := range l {
			s += list(made.Rows.Rows[i].Vals)
		}
		return s
	}
	for s, want := range map[string]string{
		"(distinct (scan t))":                                                                   order(0, 1, 2, 3),
		"(group [(a a) (b b)] [] (scan t))":                                                     order(3, 1, 2, 0),
		"(sort [(down a) (up b)] (scan t))":                                                     order(0, 4, 2, 1, 5, 3),
		"(group [] [(many n a)] (scan t))":                                                      "[4]",
		"(project [(a a) (b b)] (group [(a a)] [(min b b)] (scan t)))":                          order(3, 1, 2, 0),
		"(project [(a a) (b b)] (join (eq a c) (scan t) (project [(c a)] (limit 1 (scan t)))))": order(0, 4),
		"(project [(b b)] (join (same a c) (scan t) (project [(c a)] (scan t))))":               "[0][0][1][1][2][3][0][0][1][1]",
	} {
		if r, e := bag.Run(parsed(t, s), []api.Table{made}); lists(r) != want || e != api.OK {
			t.Errorf("%s = %s, %d", s, lists(r), e)
		}
	}
	sorted, e := bag.Sort(made.Rows)
	if lists(sorted) != order(3, 1, 5, 2, 0, 4) || e != api.OK {
		t.Errorf("Sort = %s, %d", lists(sorted), e)
	}
}

func TestSizes(t *testing.T) {
	tables := []api.Table{
		counting("a", "a", 200), counting("b", "b", 100), counting("c", "c", 101), counting("d", "d", 200), counting("e", "e", 100), counting("one", "one", 1),
	}
	const full, fuller = "(join 'true (scan a) (scan b))", "(join 'true (scan a) (scan c))"
	items := "'[" + strings.Repeat("1,", 49) + "1]"
	for s, want := range map[string]int{
		full:                                 api.MaxBag,
		fuller:                               -1,
		"(left 'true (scan a) (scan b))":     api.MaxBag,
		"(left 'true (scan a) (scan c))":     -1,
		"(left (gt a '0) (scan a) (scan b))": 199*100 + 1,
		"(left (lt a '199) (scan a) (join (eq c '0) (scan c) (scan b)))":              199*100 + 1,
		"(left (or (gt a '0) (eq c '0)) (scan a) (scan c))":                           -1,
		"(limit 20000 " + full + ")":                                                  api.MaxBag,
		"(limit 1 " + fuller + ")":                                                    -1,
		"(filter 'false " + fuller + ")":                                              -1,
		"(group [] [(count n a)] " + fuller + ")":                                     -1,
		"(group [(a a) (b b)] [] " + full + ")":                                       api.MaxBag,
		"(group [(a a)] [(sum n b)] " + full + ")":                                    200,
		"(distinct " + full + ")":                                                     api.MaxBag,
		"(sort [(down b)] " + full + ")":                                              api.MaxBag,
		"(project [(x (add a b))] " + full + ")":                                      api.MaxBag,
		"(filter (lt a '100) " + full + ")":                                           10000,
		"(union " + full + " (limit 0 " + full + "))":                                 api.MaxBag,
		"(union " + full + " (limit 1 " + full + "))":                                 -1,
		"(union (limit 1 " + full + ") " + full + ")":                                 -1,
		"(union " + full + " " + full + ")":                                           -1,
		"(union (filter (lt a '100) " + full + ") (filter (ge a '100) " + full + "))": api.MaxBag,
		"(flatten x " + items + " (filter (lt a '4) " + full + "))":                   api.MaxBag,
		"(flatten x " + items + " (filter (le a '4) " + full + "))":                   -1,
		"(flatten x " + items + " " + full + ")":                                      -1,
		"(flatten x (if (eq a '0) '[1] '[]) " + full + ")":                            100,
		"(flatten x '[] " + full + ")":                                                0,
		"(flatten x '[0] " + full + ")":                                               api.MaxBag,
		"(flatten x (if (and (eq a '0) (eq b '0)) '[1,2] '[0]) " + full + ")":         -1,
		// What counts is the rows, not the combinations.
		"(join 'false " + full + " (join 'true (scan d) (scan e)))":                                         0,
		"(left (eq a '-1) " + full + " (join 'true (scan d) (scan e)))":                                     api.MaxBag,
		"(join (lt a (sub d '198)) " + full + " (join 'true (scan d) (scan e)))":                            10000,
		"(join (and (eq a d) (eq b e)) " + full + " (join 'true (scan d) (scan e)))":                        api.MaxBag,
		"(left (and (eq a d) (eq b e)) " + full + " (join 'true (scan d) (scan e)))":                        api.MaxBag,
		"(left (and (eq a d) (le b e)) " + full + " (join 'true (scan d) (scan e)))":                        -1,
		"(join (eq (add (mul a '100) b) (add (mul d '100) e)) " + full + " (join 'true (scan d) (scan e)))": api.MaxBag,
		"(join (eq a d) " + full + " (join 'true (scan d) (scan e)))":                                       -1,
		"(join (eq one d) (scan one) (join 'true (scan d) (scan e)))":                                       100,
		"(join 'true (scan one) " + full + ")":                                                              api.MaxBag,
		"(join 'true " + full + " (scan one))":                                                              api.MaxBag,
	} {
		r, e := bag.Run(parsed(t, s), tables)
		if want < 0 && (!noRows(r) || e != api.ErrSize) {
			t.Errorf("%s: %d rows, %d", s, len(r.Rows), e)
		}
		if want >= 0 && (len(r.Rows) != want || e != api.OK) {
			t.Errorf("%s: %d rows, %d; not %d", s, len(r.Rows), e, want)
		}
	}
}

// The sum of very many large ints is beyond the limit on both sides, and does not wrap around.
func TestLargeSums(t *testing.T) {
	tables := []api.Table{counting("a", "a", 200), counting("b", "b", 100)}
	for x, want := range map[string]string{
		"'1000000000000":  "[null]",
		"'-1000000000000": "[null]",
		"'50000000":       "[1000000000000]",
		"(if (and (eq a '0) (eq b '0)) '50000001 '50000000)":                          "[null]",
		"(if (lt a '100) '1000000000000 '-1000000000000)":                             "[0]",
		"(if (and (eq a '0) (eq b '0)) '-50000001 '-50000000)":                        "[null]",
		"(if (and (eq a '199) (eq b '99)) '-49999999 '-50000000)":                     "[-999999999999]",
		"(if (lt a '100) '1000000000000 (if (lt b '50) '-1000000000000 '\"no int\"))": "[null]",
		"(if (lt a '100) (if (lt b '50) '1000000000000 'null) '[1000000000000])":      "[null]",
		"(if (lt a '1) (if (lt b '1) '1000000000000 '{\"x\":1}) 'true)":               "[1000000000000]",
	} {
		r, e := bag.Run(parsed(t, "(group [] [(sum s "+x+")] (join 'true (scan a) (scan b)))"), tables)
		if lists(r) != want || e != api.OK {
			t.Errorf("the sum of %s = %s, %d", x, lists(r), e)
		}
	}
}

// R5: the tables and the query are left alone, and the result shares no memory with them or within itself.
func TestRunMakesNewMemory(t *testing.T) {
	const u = "(project [(c c)] (scan u))"
	for _, s := range []string{
		"(scan u)", "(scan t)", u, "(filter 'true (scan u))", "(sort [(up c)] (scan u))", "(limit 7 (scan u))", "(distinct (scan u))", "(union (scan u) (scan u))",
		"(join 'true (scan u) (project [(d c)] (scan u)))", "(left (eq c d) (scan u) (project [(d c)] (scan u)))", "(left 'false (scan u) (project [(d c)] (scan u)))",
		"(group [(c c)] [(min d c) (max e c)] (scan u))", "(flatten x c (scan u))", "(project [(x c) (y c) (z '[[1]]) (w (list c c))] (scan u))",
	} {
		tables, q := samples(t), parsed(t, s)
		r := ran(t, q, tables)
		want := lists(r)
		for i, table := range samples(t) {
			if !bag.Same(tables[i].Rows, table.Rows) {
				t.Errorf("%s changes a table", s)
			}
		}
		if form(q) != s {
			t.Errorf("%s becomes %s", s, form(q))
		}
		scribbleQuery(q)
		for _, table := range tables {
			scribbleRows(table.Rows)
		}
		if lists(r) != want {
			t.Errorf("%s: the result shares memory with an argument", s)
		}
		checkApart(t, s, r)
	}
}

// checkApart checks that no two values of the result share memory, by writing over one after another.
func checkApart(t *testing.T, s string, r api.Rows) {
	t.Helper()
	for i, row := range r.Rows {
		for k := range row.Vals {
			rest := list(row.Vals[k+1:]) + lists(api.Rows{Rows: r.Rows[i+1:]})
			scribble(row.Vals[k])
			row.Vals[k] = number(-77)
			if list(row.Vals[k+1:])+lists(api.Rows{Rows: r.Rows[i+1:]}) != rest {
				t.Fatalf("%s: values of the result share memory", s)
			}
		}
		rest := lists(api.Rows{Rows: r.Rows[i+1:]})
		scribbleAll(row.Vals)
		if lists(api.Rows{Rows: r.Rows[i+1:]}) != rest {
			t.Fatalf("%s: rows of the result share memory", s)
		}
	}
}

// R6: the same call has the same result.
func TestRunAgain(t *testing.T) {
	q := parsed(t, "(group [(x x)] [(count n '1) (max m y)] (join (ne x y) (scan v) (project [(y x)] (scan v))))")
	want := ran(t, q, samples(t))
	for range 20 {
		tables := samples(t)
		slices.Reverse(tables)
		if got := ran(t, q, tables); !bag.Same(got, want) {
			t.Fatalf("%s, then %s", lists(want), lists(got))
		}
	}
}
