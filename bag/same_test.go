package bag_test

import (
	"slices"
	"testing"

	"cirrus/api"
	"cirrus/bag"
)

func rowsOf(cols string, rows ...api.Row) api.Rows { return api.Rows{Cols: typed(cols), Rows: rows} }

func row(id int, vals ...api.Value) api.Row { return api.Row{Id: id, Vals: vals} }

func object(keys []string, l ...api.Value) api.Value {
	return api.Value{Kind: api.KObject, Keys: keys, Items: l}
}

func listOf(l ...api.Value) api.Value { return api.Value{Kind: api.KList, Items: l} }

// different lists rows, valid and not, no two of which are the same.
func different() []api.Rows {
	null := api.Value{}
	l := []api.Rows{
		{},
		rowsOf("a:int"), rowsOf("a:text"), rowsOf("b:int"), rowsOf("a:int b:int"), rowsOf("b:int a:int"), rowsOf("a:int a:int"), rowsOf("A:int"),
		{Cols: []api.Column{{Name: "a", Type: 7}}}, {Cols: []api.Column{{Name: "a"}}}, {Cols: make([]api.Column, 20)},
		rowsOf("", row(0)), rowsOf("", row(1)), rowsOf("", row(-1)), rowsOf("", row(0), row(0)), rowsOf("", row(0), row(1)), rowsOf("", row(1), row(0)),
		rowsOf("", row(0, null)), rowsOf("", row(0, null, null)), rowsOf("", row(0, null), row(0)),
		rowsOf("a:int", row(1, number(1))), rowsOf("a:int", row(2, number(1))), rowsOf("a:int", row(1, number(2))), rowsOf("b:int", row(1, number(1))), rowsOf("a:variant", row(1, number(1))),
		rowsOf("a:int", row(1, number(1)), row(2, number(2))), rowsOf("a:int", row(2, number(2)), row(1, number(1))), rowsOf("a:int", row(1, number(1)), row(1, number(1))),
		rowsOf("a:int", row(1, api.Value{Kind: api.KTruth, Int: 1})), rowsOf("a:int", row(1, text("1"))), rowsOf("a:int", row(1, text(""))),
		rowsOf("a:int", row(1, listOf(number(1)))), rowsOf("a:int", row(1, listOf(number(1), null))), rowsOf("a:int", row(1, listOf())), rowsOf("a:int", row(1, object(nil))),
		rowsOf("a:int", row(1, object([]string{"a"}, number(1)))), rowsOf("a:int", row(1, object([]string{"b"}, number(1)))), rowsOf("a:int", row(1, object([]string{"a"}, number(2)))),
		rowsOf("a:int", row(1, listOf(listOf(number(1)), listOf(number(2))))), rowsOf("a:int", row(1, listOf(listOf(number(1)), listOf(number(3))))),
		// What is not valid is compared in all fields, too.
		rowsOf("a:int", row(1, api.Value{Int: 1})), rowsOf("a:int", row(1, api.Value{Text: "a"})), rowsOf("a:int", row(1, api.Value{Kind: 9})), rowsOf("a:int", row(1, api.Value{Kind: -9})),
		rowsOf("a:int", row(1, api.Value{Keys: []string{"a"}})), rowsOf("a:int", row(1, api.Value{Items: []api.Value{null}})), rowsOf("a:int", row(1, api.Value{Kind: api.KInt, Int: 1, Text: "a"})),
		rowsOf("a:int", row(1, object([]string{"b", "a"}, null, null))), rowsOf("a:int", row(1, object([]string{"b"}, null, null))), rowsOf("a:int", row(1, text("\xff"))), rowsOf("a:int", row(1, text("\xfe"))),
		rowsOf("a:int", row(1, deep(1000, null))), rowsOf("a:int", row(1, deep(1000, number(0)))), rowsOf("a:int", row(1, deep(1001, null))),
		rowsOf("a:int", row(1, endless())), rowsOf("a:int", row(1, endless(), endless())), rowsOf("a:int", row(1, wheel(2, number(1)))), rowsOf("a:int", row(1, wheel(2, number(2)))), rowsOf("a:int", row(1, wheel(3, number(1)))),
	}
	return l
}

// deep returns a value in so many lists.
func deep(n int, v api.Value) api.Value {
	for range n {
		v = listOf(v)
	}
	return v
}

// wheel returns a list that contains itself so many times, and a value.
func wheel(n int, last api.Value) api.Value {
	l := make([]api.Value, n+1)
	for i := range n {
		l[i] = listOf(l...)
		l[i].Items = l
	}
	l[n] = last
	return l[0]
}

// thicket returns a value with so few lists, but that contains a value in so many ways that they cannot be counted.
func thicket(n int, v api.Value) api.Value {
	for range n {
		v = listOf(v, v)
	}
	return v
}

func TestSame(t *testing.T) {
	a, b := different(), different()
	for i := range a {
		for k := range b {
			if got := bag.Same(a[i], b[k]); got != (i == k) {
				t.Errorf("Same of %d and %d: %v", i, k, got)
			}
		}
	}
}

func TestSameOfMany(t *testing.T) {
	big, again := thicket(200, number(1)), thicket(200, number(1))
	if !bag.Same(rowsOf("a:int", row(1, big)), rowsOf("a:int", row(1, again))) || bag.Same(rowsOf("a:int", row(1, big)), rowsOf("a:int", row(1, thicket(200, number(2))))) {
		t.Error("Same of values with very many ways into them")
	}
	if !bag.Same(rowsOf("a:int", row(1, deep(100000, number(1)))), rowsOf("a:int", row(1, deep(100000, number(1))))) {
		t.Error("Same of deep values")
	}
	// Values that contain themselves are the same if one sees no difference, however far one looks.
	l := make([]api.Value, 1)
	l[0] = listOf(listOf(listOf()))
	l[0].Items[0].Items[0].Items = l
	if !bag.Same(rowsOf("a:int", row(1, endless())), rowsOf("a:int", row(1, l[0]))) {
		t.Error("Same of a list in itself and three lists in one another")
	}
	rows := ran(t, parsed(t, "(join 'true (scan a) (scan b))"), []api.Table{counting("a", "a", 200), counting("b", "b", 100)})
	other := ran(t, parsed(t, "(join 'true (scan a) (scan b))"), []api.Table{counting("a", "a", 200), counting("b", "b", 100)})
	if !bag.Same(rows, other) {
		t.Error("Same of many rows")
	}
	other.Rows[19999].Vals[1] = number(7)
	if bag.Same(rows, other) {
		t.Error("Same of many rows, of which the last ones differ")
	}
}

// R4.
func TestSameOfNothing(t *testing.T) {
	a := api.Rows{Cols: []api.Column{}, Rows: []api.Row{}}
	if !bag.Same(a, api.Rows{}) || !bag.Same(api.Rows{}, a) {
		t.Error("nil slices and empty ones differ")
	}
	empty := api.Value{Kind: api.KList, Items: []api.Value{}, Keys: []string{}}
	if !bag.Same(rowsOf("a:int", api.Row{Vals: []api.Value{}}, row(1, empty)), rowsOf("a:int", api.Row{}, row(1, listOf()))) {
		t.Error("nil slices and empty ones in rows differ")
	}
}

func TestSort(t *testing.T) {
	r := table(t, "t", "a:variant b:text", `[2,"b"]`, `[null,"c"]`, `["a",null]`, `[2,"a"]`, `[10,"b"]`, `[2,null]`, `[{},"a"]`, `[true,"a"]`, `[[],"a"]`, `[2,"a"]`, `[false,"b"]`, `[[1],"a"]`).Rows
	want := `[null,"c"][false,"b"][true,"a"][2,null][2,"a"][2,"a"][2,"b"][10,"b"]["a",null][[],"a"][[1],"a"][{},"a"]`
	got, e := bag.Sort(r)
	if lists(got) != want || e != api.OK || !slices.Equal(got.Cols, r.Cols) {
		t.Errorf("Sort = %s, %d", lists(got), e)
	}
	if got.Rows[4].Id != 14 || got.Rows[5].Id != 20 {
		t.Errorf("Sort: numbers %d, %d", got.Rows[4].Id, got.Rows[5].Id)
	}
	slices.Reverse(r.Rows)
	if again, e := bag.Sort(r); !bag.Same(got, again) || e != api.OK {
		t.Errorf("Sort depends on the order: %s, %d", lists(again), e)
	}
	if none, e := bag.Sort(rowsOf("a:int")); len(none.Rows) != 0 || len(none.Cols) != 1 || e != api.OK {
		t.Errorf("Sort of no rows = %v, %d", none, e)
	}
	most := counting("t", "a", api.MaxRows).Rows
	mixed := api.Rows{Cols: most.Cols, Rows: slices.Clone(most.Rows)}
	slices.Reverse(mixed.Rows)
	if got, e := bag.Sort(mixed); !bag.Same(got, most) || e != api.OK {
		t.Errorf("Sort of the most rows: %d", e)
	}
}

func TestSortErrors(t *testing.T) {
	for i, r := range badRows() {
		if got, e := bag.Sort(r); !noRows(got) || e != api.ErrForm {
			t.Errorf("Sort of bad rows %d = %v, %d", i, got, e)
		}
	}
}

func TestSortMakesNewMemory(t *testing.T) {
	r := samples(t)[1].Rows
	got, _ := bag.Sort(r)
	if !bag.Same(r, samples(t)[1].Rows) {
		t.Error("Sort changes its argument")
	}
	want := lists(got)
	scribbleRows(r)
	if lists(got) != want || shown(got.Cols) != "c:variant" {
		t.Error("the result shares memory with the argument")
	}
	checkApart(t, "Sort", got)
}
