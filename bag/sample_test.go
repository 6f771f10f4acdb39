package bag_test

import (
	"slices"
	"strings"

	"cirrus/api"
)

type sample struct {
	name string
	q    api.Query
}

func scan(name string) api.Query { return api.Query{Op: "scan", Name: name} }

// above returns distincts in one another around q, so many.
func above(n int, q api.Query) api.Query {
	for range n {
		q = api.Query{Op: "distinct", Kids: []api.Query{q}}
	}
	return q
}

// names returns so many different Cols, which begin with that letter.
func names(n int, letter string) []api.Named {
	var l []api.Named
	for i := range n {
		l = append(l, api.Named{Name: letter + string(rune('0'+i)), Expr: col("a")})
	}
	return l
}

// aggs returns so many different Aggs.
func aggs(n int) []api.Agg {
	var l []api.Agg
	for _, c := range names(n, "z") {
		l = append(l, api.Agg{Name: c.Name, Op: "count", Expr: c.Expr})
	}
	return l
}

// whole returns a valid query of each Op.
func whole() map[string]api.Query {
	t, a := scan("t"), col("a")
	return map[string]api.Query{
		"scan":     t,
		"filter":   {Op: "filter", Expr: a, Kids: []api.Query{t}},
		"project":  {Op: "project", Cols: names(2, "a"), Kids: []api.Query{t}},
		"join":     {Op: "join", Expr: a, Kids: []api.Query{t, t}},
		"left":     {Op: "left", Expr: a, Kids: []api.Query{t, t}},
		"group":    {Op: "group", Cols: names(2, "a"), Aggs: aggs(2), Kids: []api.Query{t}},
		"sort":     {Op: "sort", Keys: []api.Key{{Expr: a}, {Expr: a, Down: true}}, Kids: []api.Query{t}},
		"limit":    {Op: "limit", N: 3, Kids: []api.Query{t}},
		"distinct": {Op: "distinct", Kids: []api.Query{t}},
		"union":    {Op: "union", Kids: []api.Query{t, t}},
		"flatten":  {Op: "flatten", Name: "x", Expr: a, Kids: []api.Query{t}},
	}
}

// with returns the valid query of that Op with a change.
func with(op string, change func(q *api.Query)) api.Query {
	q := whole()[op]
	change(&q)
	return q
}

// fieldsOf returns for each Op what the query has besides Op and Kids.
func fieldsOf() map[string]string {
	return map[string]string{
		"scan": "Name", "filter": "Expr", "project": "Cols", "join": "Expr", "left": "Expr", "group": "Cols Aggs", "sort": "Keys",
		"limit": "N", "distinct": "", "union": "", "flatten": "Name Expr",
	}
}

// valid lists valid queries at the limits.
func valid() []sample {
	long := strings.Repeat("z", api.MaxName)
	l := []sample{
		{"a long name", scan(long)},
		{"a long name of a flatten", with("flatten", func(q *api.Query) { q.Name = long })},
		{"the most Cols", with("project", func(q *api.Query) { q.Cols = names(api.MaxCols, "a") })},
		{"the most Cols and Aggs", with("group", func(q *api.Query) { q.Cols, q.Aggs = names(3, "a"), aggs(api.MaxCols-3) })},
		{"Cols only", with("group", func(q *api.Query) { q.Aggs = nil })},
		{"Aggs only", with("group", func(q *api.Query) { q.Cols = []api.Named{} })},
		{"the most Keys", with("sort", func(q *api.Query) { q.Keys = make8(api.Key{Expr: col("a")}) })},
		{"limit 0", with("limit", func(q *api.Query) { q.N = 0 })},
		{"the greatest limit", with("limit", func(q *api.Query) { q.N = api.MaxBag })},
		{"the most levels and nodes", above(api.MaxQuery-1, scan("t"))},
		{"the most nodes", api.Query{Op: "union", Kids: []api.Query{above(5, scan("t")), above(4, scan("t"))}}},
		{"empty slices are as nil", with("distinct", func(q *api.Query) {
			q.Cols, q.Aggs, q.Keys = make([]api.Named, 0, 2), make([]api.Agg, 0, 2), make([]api.Key, 0, 2)
			q.Expr = api.Expr{Path: make([]api.Step, 0, 2), Kids: make([]api.Expr, 0, 2), Val: api.Value{Items: make([]api.Value, 0, 2), Keys: make([]string, 0, 2)}}
		})},
		{"a scan with empty Kids", with("scan", func(q *api.Query) { q.Kids = make([]api.Query, 0, 2) })},
		{"a large expression", with("filter", func(q *api.Query) { q.Expr = op("list", slices.Repeat([]api.Expr{col("a")}, api.MaxExpr-1)...) })},
	}
	for name, q := range whole() {
		l = append(l, sample{name, q})
	}
	for _, name := range []string{"count", "many", "min", "max", "sum"} {
		l = append(l, sample{name, with("group", func(q *api.Query) { q.Aggs = []api.Agg{{Name: "n", Op: name, Expr: col("a")}} })})
	}
	return l
}

func make8[T any](x T) []T { return slices.Repeat([]T{x}, api.MaxCols) }

// invalid lists queries each of which breaks one rule.
func invalid() []sample {
	l := slices.Concat(badFields(), badNames(), badExprs(), badSizes(), strayFields())
	for name, q := range whole() {
		for n := range 4 {
			if n != len(q.Kids) {
				l = append(l, sample{name + " with another number of kids", with(name, func(q *api.Query) { q.Kids = slices.Repeat([]api.Query{scan("t")}, n) })})
			}
		}
		if len(q.Kids) > 0 {
			l = append(l, sample{name + " with an invalid kid", with(name, func(q *api.Query) {
				q.Kids = slices.Clone(q.Kids)
				q.Kids[len(q.Kids)-1] = scan("T")
			})})
		}
	}
	return l
}

func badFields() []sample {
	return []sample{
		{"nothing", api.Query{}},
		{"no Op", with("distinct", func(q *api.Query) { q.Op = "" })},
		{"an unknown Op", with("filter", func(q *api.Query) { q.Op = "where" })},
		{"upper case", with("distinct", func(q *api.Query) { q.Op = "Distinct" })},
		{"a blank", with("distinct", func(q *api.Query) { q.Op = "distinct " })},
		{"project without Cols", with("project", func(q *api.Query) { q.Cols = nil })},
		{"group without Cols and Aggs", with("group", func(q *api.Query) { q.Cols, q.Aggs = nil, nil })},
		{"sort without Keys", with("sort", func(q *api.Query) { q.Keys = nil })},
		{"a negative limit", with("limit", func(q *api.Query) { q.N = -1 })},
		{"a limit beyond", with("limit", func(q *api.Query) { q.N = api.MaxBag + 1 })},
		{"too many Cols", with("project", func(q *api.Query) { q.Cols = names(api.MaxCols+1, "a") })},
		{"too many Cols of a group", with("group", func(q *api.Query) { q.Cols, q.Aggs = names(api.MaxCols+1, "a"), nil })},
		{"too many Aggs", with("group", func(q *api.Query) { q.Cols, q.Aggs = nil, aggs(api.MaxCols+1) })},
		{"too many Cols and Aggs", with("group", func(q *api.Query) { q.Cols, q.Aggs = names(4, "a"), aggs(api.MaxCols-3) })},
		{"too many Keys", with("sort", func(q *api.Query) { q.Keys = append(make8(api.Key{Expr: col("a")}), api.Key{Expr: col("a")}) })},
		{"an unknown aggregate", with("group", func(q *api.Query) { q.Aggs = []api.Agg{{Name: "n", Op: "avg", Expr: col("a")}} })},
		{"no aggregate", with("group", func(q *api.Query) { q.Aggs = []api.Agg{{Name: "n", Expr: col("a")}} })},
		{"an unknown aggregate at the end", with("group", func(q *api.Query) { q.Aggs = append(aggs(2), api.Agg{Name: "n", Op: "Sum", Expr: col("a")}) })},
	}
}

func badNames() []sample {
	a := col("a")
	l := []sample{
		{"two Cols with one name", with("project", func(q *api.Query) {
			q.Cols = []api.Named{{Name: "a", Expr: a}, {Name: "b", Expr: a}, {Name: "a", Expr: a}}
		})},
		{"two Cols of a group with one name", with("group", func(q *api.Query) { q.Cols = []api.Named{{Name: "a", Expr: a}, {Name: "a", Expr: a}} })},
		{"two Aggs with one name", with("group", func(q *api.Query) { q.Aggs = append(aggs(2), aggs(1)...) })},
		{"one name in Cols and Aggs", with("group", func(q *api.Query) { q.Cols = []api.Named{{Name: "z1", Expr: a}} })},
	}
	for _, name := range []string{"", "A", "1a", "_a", "a b", "a-b", "ä", strings.Repeat("a", api.MaxName+1)} {
		l = append(l,
			sample{"scan of " + name, scan(name)},
			sample{"flatten to " + name, with("flatten", func(q *api.Query) { q.Name = name })},
			sample{"project to " + name, with("project", func(q *api.Query) { q.Cols = append(q.Cols, api.Named{Name: name, Expr: a}) })},
			sample{"group to " + name, with("group", func(q *api.Query) { q.Cols = append(q.Cols, api.Named{Name: name, Expr: a}) })},
			sample{"aggregate to " + name, with("group", func(q *api.Query) { q.Aggs = append(q.Aggs, api.Agg{Name: name, Op: "sum", Expr: a}) })},
		)
	}
	return l
}

func badExprs() []sample {
	var l []sample
	for _, x := range []api.Expr{{}, col("A"), op("not"), op("not", op("and", col("a"))), constant(api.Value{Kind: 6}), constant(endless()), ringExpr(), op("list", slices.Repeat([]api.Expr{col("a")}, api.MaxExpr)...)} {
		for _, name := range []string{"filter", "join", "left", "flatten"} {
			l = append(l, sample{name + " with an invalid Expr", with(name, func(q *api.Query) { q.Expr = x })})
		}
		for _, name := range []string{"project", "group"} {
			l = append(l, sample{name + " with an invalid Expr in Cols", with(name, func(q *api.Query) { q.Cols = append(q.Cols, api.Named{Name: "x", Expr: x}) })})
		}
		l = append(l,
			sample{"an invalid Expr in Aggs", with("group", func(q *api.Query) { q.Aggs = append(q.Aggs, api.Agg{Name: "x", Op: "min", Expr: x}) })},
			sample{"an invalid Expr in Keys", with("sort", func(q *api.Query) { q.Keys = append(q.Keys, api.Key{Expr: x}) })},
		)
	}
	return l
}

func badSizes() []sample {
	return []sample{
		{"too many levels", above(api.MaxLevel, scan("t"))},
		{"too many levels at the end", api.Query{Op: "union", Kids: []api.Query{scan("t"), above(api.MaxLevel-1, scan("t"))}}},
		{"too many nodes", api.Query{Op: "union", Kids: []api.Query{above(5, scan("t")), above(5, scan("t"))}}},
		{"very deep", above(100000, scan("t"))},
		{"a distinct in itself", ring()},
		{"a union in itself", bush()},
		{"very many Cols", with("project", func(q *api.Query) { q.Cols = make([]api.Named, 1<<20) })},
		{"very many Aggs", with("group", func(q *api.Query) { q.Aggs = make([]api.Agg, 1<<20) })},
		{"very many Keys", with("sort", func(q *api.Query) { q.Keys = make([]api.Key, 1<<20) })},
	}
}

// strayFields lists valid queries with one more field, which their Op does not have.
func strayFields() []sample {
	changes := map[string][]func(q *api.Query){
		"Name": {func(q *api.Query) { q.Name = "a" }},
		"Expr": {
			func(q *api.Query) { q.Expr = col("a") },
			func(q *api.Query) { q.Expr = api.Expr{Op: "col"} },
			func(q *api.Query) { q.Expr = api.Expr{Name: "a"} },
			func(q *api.Query) { q.Expr = api.Expr{Path: make([]api.Step, 1)} },
			func(q *api.Query) { q.Expr = api.Expr{Kids: make([]api.Expr, 1)} },
			func(q *api.Query) { q.Expr = api.Expr{Val: number(0)} },
			func(q *api.Query) { q.Expr = api.Expr{Val: api.Value{Int: 1}} },
			func(q *api.Query) { q.Expr = api.Expr{Val: api.Value{Text: "a"}} },
			func(q *api.Query) { q.Expr = api.Expr{Val: api.Value{Items: make([]api.Value, 1)}} },
			func(q *api.Query) { q.Expr = api.Expr{Val: api.Value{Keys: make([]string, 1)}} },
		},
		"Cols": {func(q *api.Query) { q.Cols = names(1, "a") }},
		"Aggs": {func(q *api.Query) { q.Aggs = aggs(1) }},
		"Keys": {func(q *api.Query) { q.Keys = []api.Key{{Expr: col("a")}} }},
		"N":    {func(q *api.Query) { q.N = 1 }, func(q *api.Query) { q.N = -1 }},
	}
	var l []sample
	for name, has := range fieldsOf() {
		for field, several := range changes {
			if slices.Contains(strings.Fields(has), field) {
				continue
			}
			for _, change := range several {
				l = append(l, sample{name + " with " + field, with(name, change)})
			}
		}
	}
	return l
}

// ring returns a query that contains itself.
func ring() api.Query {
	kids := make([]api.Query, 1)
	kids[0] = api.Query{Op: "distinct", Kids: kids}
	return kids[0]
}

// bush returns a query that contains itself often.
func bush() api.Query {
	kids := make([]api.Query, 2)
	for i := range kids {
		kids[i] = api.Query{Op: "union", Kids: kids}
	}
	return kids[0]
}

// ringExpr returns an expression that contains itself.
func ringExpr() api.Expr {
	kids := make([]api.Expr, 1)
	kids[0] = op("not", kids...)
	kids[0].Kids = kids
	return kids[0]
}

// endless returns a value that contains itself.
func endless() api.Value {
	l := make([]api.Value, 1)
	l[0] = api.Value{Kind: api.KList, Items: l}
	return l[0]
}

// badRows lists rows each of which break one rule.
func badRows() []api.Rows {
	a := []api.Column{{Name: "a", Type: api.TInt}}
	row := func(id int, vals ...api.Value) []api.Row {
		return []api.Row{{Id: 1, Vals: []api.Value{number(1)}}, {Id: id, Vals: vals}}
	}
	var many []api.Column
	for _, c := range names(api.MaxCols+1, "a") {
		many = append(many, api.Column{Name: c.Name, Type: api.TVariant})
	}
	l := []api.Rows{
		{}, {Cols: many}, {Cols: []api.Column{{Name: "a"}}}, {Cols: []api.Column{{Name: "a", Type: 5}}}, {Cols: []api.Column{{Name: "a", Type: -1}}},
		{Cols: []api.Column{{Type: api.TInt}}}, {Cols: []api.Column{{Name: "A", Type: api.TInt}}}, {Cols: []api.Column{{Name: strings.Repeat("a", api.MaxName+1), Type: api.TInt}}},
		{Cols: []api.Column{{Name: "a", Type: api.TInt}, {Name: "b", Type: api.TInt}, {Name: "a", Type: api.TText}}},
		{Rows: row(2, number(1))},
		{Cols: a, Rows: row(-1, number(1))}, {Cols: a, Rows: row(api.MaxId+1, number(1))},
		{Cols: a, Rows: row(2)}, {Cols: a, Rows: row(2, number(1), number(1))},
		{Cols: a, Rows: row(2, text("a"))}, {Cols: a, Rows: row(2, number(api.MaxInt+1))}, {Cols: a, Rows: row(2, api.Value{Int: 1})}, {Cols: a, Rows: row(2, endless())},
		{Cols: a, Rows: slices.Repeat(row(2, number(1))[:1], api.MaxRows+1)},
		{Cols: a, Rows: make([]api.Row, 1<<20)},
	}
	for typ, v := range map[int]api.Value{api.TTruth: number(1), api.TInt: {Kind: api.KTruth}, api.TText: {Kind: api.KList}, api.TVariant: {Kind: 6}} {
		l = append(l, api.Rows{Cols: []api.Column{{Name: "a", Type: typ}}, Rows: []api.Row{{Vals: []api.Value{v}}}})
	}
	return l
}
