package zone_test

import (
	"strings"
	"testing"

	"cirrus/api"
	"cirrus/expr"
	"cirrus/part"
	"cirrus/value"
)

// dice returns numbers that look like random ones and are always the same.
type dice uint64

func (d *dice) roll(n int) int {
	*d = *d*6364136223846793005 + 1442695040888963407
	return int(uint64(*d)>>33) % n
}

// one returns one element of l.
func one[T any](d *dice, l ...T) T { return l[d.roll(len(l))] }

// columns has columns of each type.
func columns() []api.Column {
	return []api.Column{
		{Name: "a", Type: api.TInt}, {Name: "b", Type: api.TVariant}, {Name: "c", Type: api.TText}, {Name: "d", Type: api.TTruth},
		{Name: "e", Type: api.TInt}, {Name: "f", Type: api.TVariant}, {Name: "g", Type: api.TTruth},
	}
}

// value returns a value that fits a column of the type and is not null.
func (d *dice) value(typ int) api.Value {
	switch typ {
	case api.TTruth:
		return truth(d.roll(2))
	case api.TInt:
		if d.roll(12) == 0 {
			return number(one(d, api.MaxInt, -api.MaxInt, api.MaxInt-1, -api.MaxInt+2))
		}
		return number(d.roll(9) - 3)
	case api.TText:
		return text(one(d, "", "a", "ab", "b", "ba", "7", "true", "a%"))
	}
	switch d.roll(5) {
	case 0:
		return d.value(1 + d.roll(3))
	case 1:
		return one(d, list(), list(d.value(api.TInt)), list(api.Value{}, d.value(api.TText)))
	}
	v := api.Value{Kind: api.KObject}
	for _, key := range []string{"k", "l", "m"} {
		if d.roll(3) > 0 {
			v.Keys = append(v.Keys, key)
			v.Items = append(v.Items, d.item())
		}
	}
	return v
}

// item returns a value that lies in others; it is mostly an int.
func (d *dice) item() api.Value {
	switch d.roll(8) {
	case 0:
		return api.Value{}
	case 1:
		return d.value(1 + d.roll(3))
	case 2:
		return api.Value{Kind: api.KObject, Keys: []string{"k"}, Items: []api.Value{d.value(api.TInt)}}
	}
	return d.value(api.TInt)
}

// rows returns the rows of a partition with columns(), each with few different values, with nulls or without.
func (d *dice) rows() api.Rows {
	r := api.Rows{Cols: columns()}
	for i := range 1 + d.roll(5) {
		r.Rows = append(r.Rows, api.Row{Id: i + 1})
	}
	for _, c := range r.Cols {
		var pool []api.Value
		for range 1 + d.roll(3) {
			pool = append(pool, d.value(c.Type))
		}
		if d.roll(3) == 0 {
			pool = append(pool[1:], api.Value{})
		}
		for i := range r.Rows {
			r.Rows[i].Vals = append(r.Rows[i].Vals, one(d, pool...))
		}
	}
	return r
}

// stat returns statistics of so many values that fit a column of the type.
func (d *dice) stat(rows, typ int) api.Stat {
	s := api.Stat{Rows: rows}
	if d.roll(2) == 0 {
		s.Nulls = d.roll(rows + 1)
	}
	if s.Nulls == rows {
		return s
	}
	l, _ := value.Sort([]api.Value{d.value(typ), d.value(typ)})
	s.Min, s.Max = l[0], l[1]
	if d.roll(4) == 0 {
		s.Max = s.Min
	}
	return s
}

// head returns a head with columns() that perhaps no partition has: what it says of paths need not agree with their columns.
func (d *dice) head() api.Head {
	h := api.Head{Cols: columns(), Rows: 1 + d.roll(4), First: 1, Last: 9}
	for i, c := range h.Cols {
		h.Stats = append(h.Stats, d.stat(h.Rows, c.Type))
		for _, p := range [][]api.Step{keys("k"), keys("k", "k"), keys("l"), keys("m")} {
			if c.Type == api.TVariant && d.roll(2) == 0 {
				h.Paths = append(h.Paths, api.PathStat{Col: i, Path: p, Stat: d.stat(h.Rows, 1+d.roll(4))})
			}
		}
	}
	return h
}

// wider returns a head that allows more: other bounds, more nulls.
func (d *dice) wider(h api.Head) api.Head {
	h = cloned(h)
	for i, c := range h.Cols {
		d.widen(&h.Stats[i], c.Type)
	}
	for i := range h.Paths {
		d.widen(&h.Paths[i].Stat, api.TVariant)
	}
	return h
}

func (d *dice) widen(s *api.Stat, typ int) {
	if s.Nulls == s.Rows || d.roll(3) == 0 {
		return
	}
	if v := d.value(typ); order(v, s.Min) < 0 {
		s.Min = v
	}
	if v := d.value(typ); order(v, s.Max) > 0 {
		s.Max = v
	}
	s.Nulls += d.roll(s.Rows - s.Nulls)
}

// expr returns a valid expression over columns().
func (d *dice) expr() api.Expr {
	for {
		if x := d.deep(one(d, api.TTruth, api.TTruth, api.TInt, api.TText, api.TVariant), 1+d.roll(5)); expr.Valid(x) {
			return x
		}
	}
}

// forms lists the operations whose values are mostly of the type, each with the types of its kids: truth, int, string, variant,
// the same as its own (r) or any, of which all x are the same one.
func forms(typ int) []string {
	all := []string{"if trr", "first rr", "first rrr", "if trr", "cast x"}
	switch typ {
	case api.TTruth:
		return append(all, "not t", "and tt", "or tt", "not t", "and tt", "or tt", "eq xx", "ne xx", "lt xx", "le xx", "gt xx", "ge xx", "same xx", "null x", "in xxx", "in xx", "like ss", "has v", "lt ii", "ge ii", "eq xx")
	case api.TInt:
		return append(all, "add ii", "sub ii", "neg i", "mul ii", "div ii", "mod ii", "len s", "add ii", "sub ii", "neg i")
	case api.TText:
		return append(all, "cat ss", "lower s", "slice sii", "kind x")
	}
	return append(all, "get v", "put vx", "list xi", "list ", "get v", "get v")
}

// deep returns an expression of at most that depth whose values are mostly of the type.
func (d *dice) deep(typ, depth int) api.Expr {
	if d.roll(12) == 0 {
		typ = 1 + d.roll(4)
	}
	if depth == 1 || d.roll(5) == 0 {
		return d.leaf(typ)
	}
	name, kids, _ := strings.Cut(one(d, forms(typ)...), " ")
	made := api.Expr{Op: name}
	switch name {
	case "get", "has", "put":
		made.Path = one(d, keys("k"), keys("k"), keys("l"), keys("m"), keys("k", "k"), nil, []api.Step{{Index: 1}}, keys("z"))
	case "cast":
		made.Name = one(d, "truth", "int", "text")
	}
	any := 1 + d.roll(4)
	for _, k := range kids {
		types := map[rune]int{'t': api.TTruth, 'i': api.TInt, 's': api.TText, 'v': api.TVariant, 'r': typ, 'x': any}
		made.Kids = append(made.Kids, d.deep(types[k], depth-1))
	}
	return made
}

// leaf returns a column of the type, or a const.
func (d *dice) leaf(typ int) api.Expr {
	switch d.roll(10) {
	case 0:
		return constant(api.Value{})
	case 1, 2:
		return constant(d.value(typ))
	}
	var l []api.Expr
	for _, c := range columns() {
		if c.Type == typ {
			l = append(l, col(c.Name))
		}
	}
	return one(d, l...)
}

// headOfRows returns the head of a partition.
func headOfRows(t testing.TB, r api.Rows) api.Head {
	t.Helper()
	h, e := part.Head(r)
	if e != api.OK {
		t.Fatalf("part.Head: %d", e)
	}
	return h
}

// What the tests of promises range over: that every operation is there, and that results of all sorts are.
func TestDice(t *testing.T) {
	d := dice(1)
	ops, zones, spans := map[string]int{}, map[string]int{}, map[string]int{}
	var count func(x api.Expr)
	count = func(x api.Expr) {
		ops[x.Op]++
		for _, kid := range x.Kids {
			count(kid)
		}
	}
	for i := range 8000 {
		h, x := d.head(), d.expr()
		if i%2 == 0 {
			h = headOfRows(t, d.rows())
		}
		count(x)
		zones[shownZone(zoneOf(t, h, x))]++
		spans[shownSpan(spanOf(t, h, x))]++
	}
	for typ := api.TTruth; typ <= api.TVariant; typ++ {
		for _, s := range forms(typ) {
			if name, _, _ := strings.Cut(s, " "); ops[name] < 100 {
				t.Errorf("%s occurs %d times", name, ops[name])
			}
		}
	}
	for _, s := range []string{"T", "F", "N", "TF", "TN", "FN", "TFN"} {
		if zones[s] < 100 {
			t.Errorf("%s occurs %d times", s, zones[s])
		}
	}
	if spans["null"] > 2000 || spans["null ?"] > 3000 || spans["?"] < 10 || len(spans) < 300 {
		t.Errorf("%d times null, %d anything, %d unknown without null, %d different ones", spans["null"], spans["null ?"], spans["?"], len(spans))
	}
}
