package expr_test

import (
	"slices"
	"testing"

	"cirrus/api"
	"cirrus/expr"
	"cirrus/value"
)

// dice returns numbers that look like random ones and are always the same.
type dice uint64

func (d *dice) roll(n int) int {
	*d = *d*6364136223846793005 + 1442695040888963407
	return int(uint64(*d)>>33) % n
}

// one returns one element of l.
func one[T any](d *dice, l ...T) T { return l[d.roll(len(l))] }

// value returns a value that fits a column of that type, out of few different ones, so that equal ones occur often.
func (d *dice) value(typ int) api.Value {
	if d.roll(6) == 0 {
		return api.Value{}
	}
	switch typ {
	case api.TTruth:
		return api.Value{Kind: api.KTruth, Int: d.roll(2)}
	case api.TInt:
		return number(one(d, 0, 1, 2, -1, 7, -3, 1000001, -api.MaxInt, api.MaxInt))
	case api.TText:
		return text(one(d, "", "a", "ab", "aBa", "12", "-3", "true", "a%", "_b", `"\`, "(a) '"))
	}
	switch d.roll(4) {
	case 0:
		return d.value(api.TTruth + d.roll(3))
	case 1:
		v := api.Value{Kind: api.KList}
		for range d.roll(3) {
			v.Items = append(v.Items, d.value(api.TTruth+d.roll(4)))
		}
		return d.small(v)
	}
	v := api.Value{Kind: api.KObject}
	for _, key := range []string{"", "x", "y z"} {
		if d.roll(2) == 0 {
			v.Keys = append(v.Keys, key)
			v.Items = append(v.Items, d.value(api.TTruth+d.roll(4)))
		}
	}
	return d.small(v)
}

// small returns v, or one of its items if v is not valid or too large to be put into others.
func (d *dice) small(v api.Value) api.Value {
	if nodes, depth, e := value.Size(v); e == api.OK && nodes < 12 && depth < 4 || len(v.Items) == 0 {
		return v
	}
	return v.Items[0]
}

// row returns values that fit columns().
func (d *dice) row() []api.Value {
	var vals []api.Value
	for _, c := range columns() {
		vals = append(vals, d.value(c.Type))
	}
	return vals
}

func (d *dice) path() []api.Step {
	var p []api.Step
	for range d.roll(3) {
		p = append(p, one(d, api.Step{Index: -1, Key: "x"}, api.Step{Index: -1, Key: "y z"}, api.Step{Index: -1}, api.Step{}, api.Step{Index: 1}))
	}
	return p
}

// expr returns a valid expression over columns().
func (d *dice) expr() api.Expr {
	for {
		if x := d.deep(api.TTruth+d.roll(4), 2+d.roll(5)); expr.Valid(x) {
			return x
		}
	}
}

// deep returns an expression of at most that depth whose values are mostly of that type.
func (d *dice) deep(typ, depth int) api.Expr {
	if d.roll(10) == 0 {
		typ = api.TTruth + d.roll(4)
	}
	if depth == 1 || d.roll(5) == 0 {
		if d.roll(2) == 0 {
			return constant(d.value(typ))
		}
		return col(columns()[slices.IndexFunc(columns(), func(c api.Column) bool { return c.Type == typ })].Name)
	}
	kid := func(typ int) api.Expr { return d.deep(typ, depth-1) }
	switch typ {
	case api.TTruth:
		return d.truth(kid)
	case api.TInt:
		return d.int(kid)
	case api.TText:
		return d.text(kid)
	}
	return d.any(kid)
}

func (d *dice) truth(kid func(typ int) api.Expr) api.Expr {
	typ := one(d, api.TInt, api.TInt, api.TText, api.TTruth, api.TVariant)
	switch d.roll(8) {
	case 0:
		return op("not", kid(api.TTruth))
	case 1, 2:
		return op(one(d, "and", "or"), kid(api.TTruth), kid(api.TTruth))
	case 3, 4:
		return op(one(d, "eq", "ne", "lt", "le", "gt", "ge", "same"), kid(typ), kid(typ))
	case 5:
		return one(d, op("null", kid(typ)), cast("truth", kid(typ)))
	case 6:
		return one(d, op("like", kid(api.TText), kid(api.TText)), at("has", d.path(), kid(api.TVariant)))
	}
	return op("in", d.several(kid, typ, 2)...)
}

func (d *dice) int(kid func(typ int) api.Expr) api.Expr {
	switch d.roll(5) {
	case 0:
		return op("neg", kid(api.TInt))
	case 1:
		return one(d, op("len", kid(api.TText)), op("len", kid(api.TVariant)))
	case 2:
		return cast("int", kid(one(d, api.TTruth, api.TInt, api.TText)))
	}
	return op(one(d, "add", "sub", "mul", "div", "mod"), kid(api.TInt), kid(api.TInt))
}

func (d *dice) text(kid func(typ int) api.Expr) api.Expr {
	switch d.roll(5) {
	case 0:
		return op("lower", kid(api.TText))
	case 1:
		return op("slice", kid(api.TText), kid(api.TInt), kid(api.TInt))
	case 2:
		return op("kind", kid(api.TVariant))
	case 3:
		return cast("text", kid(api.TTruth+d.roll(4)))
	}
	return op("cat", kid(api.TText), kid(api.TText))
}

func (d *dice) any(kid func(typ int) api.Expr) api.Expr {
	typ := api.TTruth + d.roll(4)
	switch d.roll(6) {
	case 0:
		return at("get", d.path(), kid(api.TVariant))
	case 1:
		return at("put", d.path(), kid(api.TVariant), kid(typ))
	case 2:
		return op("list", d.several(kid, typ, 0)...)
	case 3:
		return op("first", d.several(kid, typ, 1)...)
	}
	return op("if", kid(api.TTruth), kid(typ), kid(typ))
}

// several returns at least so many kids.
func (d *dice) several(kid func(typ int) api.Expr, typ, least int) []api.Expr {
	var l []api.Expr
	for range least + d.roll(3) {
		l = append(l, kid(typ))
	}
	return l
}

// What the tests of promises range over: that every operation is there, that it is not all the same, and mostly not null.
func TestDice(t *testing.T) {
	d := dice(1)
	ops := map[string]int{}
	var count func(x api.Expr)
	count = func(x api.Expr) {
		ops[x.Op]++
		for _, kid := range x.Kids {
			count(kid)
		}
	}
	values := map[string]int{}
	for range 5000 {
		x := d.expr()
		count(x)
		values[evaluated(t, d.row(), x)]++
	}
	for name := range counts() {
		if ops[name] < 50 {
			t.Errorf("%s occurs %d times", name, ops[name])
		}
	}
	if values["null"] > 3000 || len(values) < 300 {
		t.Errorf("%d times null, %d different values", values["null"], len(values))
	}
}
