package part_test

import (
	"slices"
	"strings"

	"cirrus/api"
)

// nested returns empty lists in one another, so many in all.
func nested(depth int) api.Value {
	if depth == 1 {
		return list()
	}
	return list(nested(depth - 1))
}

// invalid lists values each of which is invalid in another way.
func invalid() []api.Value {
	endless := make([]api.Value, 2)
	for i := range endless {
		endless[i] = list()
		endless[i].Items = endless
	}
	return []api.Value{
		{Kind: -1}, {Kind: 6}, {Int: 1}, {Text: "a"}, {Keys: []string{"a"}}, {Kind: api.KTruth, Int: 2},
		number(api.MaxInt + 1), number(-api.MaxInt - 1), text("\n"), text("\x7f"), text(strings.Repeat("a", api.MaxText+1)),
		{Kind: api.KObject, Keys: []string{"b", "a"}, Items: make([]api.Value, 2)},
		{Kind: api.KObject, Keys: []string{"a", "a"}, Items: make([]api.Value, 2)},
		{Kind: api.KObject, Keys: []string{"a"}}, list(make([]api.Value, api.MaxNodes)...), nested(api.MaxDepth + 1), list(api.Value{Kind: 9}), endless[0],
	}
}

// badRows lists rows that are not those of a partition, each in another way.
func badRows() []api.Rows {
	one := func(cols string, id int, vals ...api.Value) api.Rows {
		return api.Rows{Cols: typed(cols), Rows: []api.Row{{Id: id, Vals: vals}}}
	}
	v := number(1)
	l := []api.Rows{
		{}, counting(0), counting(api.MaxPart + 1), counting(api.MaxRows), counting(api.MaxRows + 1),
		one("a:int", 0, v), one("a:int", -1, v), one("a:int", api.MaxId+1, v), one("a:int", -1<<63, v), one("a:int", 1<<63-1, v), one("a:int", 1<<32+1, v),
		{Cols: typed("a:int"), Rows: []api.Row{{Id: 3, Vals: []api.Value{v}}, {Id: 3, Vals: []api.Value{v}}}},
		{Cols: typed("a:int"), Rows: []api.Row{{Id: 3, Vals: []api.Value{v}}, {Id: 2, Vals: []api.Value{v}}, {Id: 3, Vals: []api.Value{{}}}}},
		{Cols: typed("a:int"), Rows: []api.Row{{Id: 3, Vals: []api.Value{v}}, {Id: 0, Vals: []api.Value{v}}}},
		one("", 1), one("a:int b:int c:int d:int e:int f:int g:int h:int i:int", 1, slices.Repeat([]api.Value{v}, 9)...),
		one("A:int", 1, v), one(":int", 1, v), one("1:int", 1, v), one("a-b:int", 1, v), one(strings.Repeat("a", api.MaxName+1)+":int", 1, v),
		one("a:int a:int", 1, v, v), one("a:int b:int a:text", 1, v, v, text("")),
		one("a:none", 1, v), {Cols: []api.Column{{Name: "a", Type: 5}}, Rows: []api.Row{{Id: 1, Vals: []api.Value{v}}}},
		{Cols: []api.Column{{Name: "a", Type: -1}}, Rows: []api.Row{{Id: 1, Vals: []api.Value{v}}}}, {Cols: []api.Column{{Name: "a", Type: 256 + api.TInt}}, Rows: []api.Row{{Id: 1, Vals: []api.Value{v}}}},
		one("a:truth", 1, v), one("a:text", 1, v), one("a:int", 1, text("1")), one("a:int", 1, list()), one("a:int", 1, api.Value{Kind: api.KTruth, Int: 1}),
		one("a:int", 1), one("a:int", 1, v, v), one("a:int b:int", 1, v),
	}
	for _, bad := range invalid() {
		l = append(l, one("a:variant", 1, bad), one("b:int a:variant", 1, v, bad))
	}
	return l
}

// dice returns numbers that look like random ones and are always the same.
type dice uint64

func (d *dice) roll(n int) int {
	*d = *d*6364136223846793005 + 1442695040888963407
	return int(uint64(*d)>>33) % n
}

// value returns a valid value of at most that depth.
func (d *dice) value(depth int) api.Value {
	kinds := 8
	if depth == 1 {
		kinds = 4
	}
	switch d.roll(kinds) {
	case 1:
		return api.Value{Kind: api.KTruth, Int: d.roll(2)}
	case 2:
		return number(d.roll(400) - 200)
	case 3:
		return text(strings.Repeat(string(rune('a'+d.roll(2))), d.roll(4)))
	case 4:
		v := list()
		for range d.roll(3) {
			v.Items = append(v.Items, d.value(depth-1))
		}
		return v
	case 5, 6, 7:
		return d.object(depth)
	}
	return api.Value{}
}

// object returns an object with few of some keys, which are rising.
func (d *dice) object(depth int) api.Value {
	v := api.Value{Kind: api.KObject}
	for _, key := range []string{"", " ", "\"", "A", "[0]", "a", "a.b", "ab", "b", "~"} {
		if d.roll(5) == 0 {
			v.Keys = append(v.Keys, key)
			v.Items = append(v.Items, d.value(depth-1))
		}
	}
	return v
}

// fitting returns a value that fits a column of the type.
func (d *dice) fitting(typ int) api.Value {
	if typ == api.TVariant {
		return d.value(4)
	}
	if d.roll(4) == 0 {
		return api.Value{}
	}
	switch typ {
	case api.TTruth:
		return api.Value{Kind: api.KTruth, Int: d.roll(2)}
	case api.TInt:
		return number(d.roll(3000) - 1500)
	}
	return text(strings.Repeat("x", d.roll(5)))
}

// column returns values that fit a column of the type: often equal ones, in place or not, and often no nulls.
func (d *dice) column(typ, n int) []api.Value {
	var pool, l []api.Value
	few := d.roll(2) == 0
	for range n {
		v := d.fitting(typ)
		for v.Kind == api.KNull && few {
			v = d.fitting(typ)
		}
		pool = append(pool, v)
	}
	shared := 1 + d.roll(len(pool))
	for i := range n {
		switch {
		case !few:
			l = append(l, pool[i])
		case i > 0 && d.roll(2) == 0:
			l = append(l, l[i-1])
		default:
			l = append(l, pool[d.roll(shared)])
		}
	}
	return l
}

// rows returns the rows of a partition.
func (d *dice) rows() api.Rows {
	var r api.Rows
	n := 1 + d.roll(12)
	if d.roll(10) == 0 {
		n = 1 + d.roll(api.MaxPart)
	}
	id, down := 1+d.roll(1000), d.roll(3)
	for range n {
		r.Rows = append(r.Rows, api.Row{Id: id})
		id += 1 + d.roll(1+down*100000)
	}
	if down == 1 {
		slices.Reverse(r.Rows)
	}
	for _, name := range []string{"a", "b2", "a_name_of_24_bytes_______", "d", "e", "f", "g", "h"}[:1+d.roll(api.MaxCols)] {
		typ := 1 + d.roll(4)
		r.Cols = append(r.Cols, api.Column{Name: name[:min(len(name), api.MaxName)], Type: typ})
		for i, v := range d.column(typ, n) {
			r.Rows[i].Vals = append(r.Rows[i].Vals, v)
		}
	}
	return r
}

// most returns the rows of a partition with as many bytes as there can be.
func most() api.Rows {
	r := api.Rows{Cols: typed("a:variant b:variant c:variant d:variant e:variant f:variant g:variant h:variant")}
	long := func(i int) string {
		return strings.Repeat("~", api.MaxText-2) + string([]byte{byte(32 + i/90), byte(32 + i%90)})
	}
	for i := range api.MaxPart {
		row := api.Row{Id: api.MaxId - 999999*(i%2) - i}
		for range r.Cols {
			v := api.Value{Kind: api.KObject}
			for k := range api.MaxNodes - 1 {
				v.Keys = append(v.Keys, long(k))
				v.Items = append(v.Items, text(long(i)))
			}
			row.Vals = append(row.Vals, v)
		}
		r.Rows = append(r.Rows, row)
	}
	return r
}

// samples returns rows of partitions: some at the limits, and so many others.
func samples(n int) []api.Rows {
	all := []api.Rows{counting(1), counting(api.MaxPart)}
	d := dice(6)
	for range n {
		all = append(all, d.rows())
	}
	return all
}

// damage changes, removes or adds a byte, or leaves out the end.
func (d *dice) damage(s string) string {
	i, c := d.roll(len(s)), d.roll(8)
	if d.roll(3) == 0 {
		c = d.roll(256)
	}
	switch d.roll(5) {
	case 0:
		return s[:i] + s[i+1:]
	case 1:
		return s[:i] + string([]byte{byte(c)}) + s[i:]
	case 2:
		return s[:i]
	}
	return s[:i] + string([]byte{byte(c)}) + s[i+1:]
}
