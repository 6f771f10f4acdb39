package zone_test

import (
	"slices"
	"strings"
	"testing"

	"cirrus/api"
	"cirrus/part"
	"cirrus/zone"
)

// whole returns a head in which every rule of heads matters.
func whole(t testing.TB) api.Head {
	return headOf(t, `a:int 1 [2,5]`, `b:variant 0 [false,{"k":[1]}]`, `$.k 2 [[1],[1]]`, `$.k.l 3`, `$.l 0 [1,"x"]`, `c:text 3`, `d:variant 0 [[],[]]`, `$.a.b 1 [{},{}]`)
}

// many returns the head with so many paths of each of its first and its fourth column, which are variants.
func many(first, fourth int) api.Head {
	h := api.Head{Rows: 1, First: 1, Last: 1}
	for i := range 4 {
		h.Cols = append(h.Cols, api.Column{Name: string(rune('a' + i)), Type: api.TVariant})
		h.Stats = append(h.Stats, api.Stat{Rows: 1, Nulls: 1})
	}
	for _, c := range [][2]int{{0, first}, {3, fourth}} {
		for i := range c[1] {
			h.Paths = append(h.Paths, api.PathStat{Col: c[0], Path: keys(string(rune('A' + i))), Stat: api.Stat{Rows: 1, Nulls: 1}})
		}
	}
	return h
}

// nulls returns the head of so many rows that have only nulls.
func nulls(rows int) api.Head {
	return api.Head{Cols: []api.Column{{Name: "a", Type: api.TInt}}, Rows: rows, First: 1, Last: api.MaxPart, Stats: []api.Stat{{Rows: rows, Nulls: rows}}}
}

// badValues lists values each of which is invalid in another way.
func badValues() []api.Value {
	endless := make([]api.Value, 2)
	for i := range endless {
		endless[i] = list()
		endless[i].Items = endless
	}
	return []api.Value{
		{Kind: -1}, {Kind: 6}, {Int: 1}, {Text: "a"}, {Keys: []string{"a"}}, truth(2), number(api.MaxInt + 1), number(-api.MaxInt - 1),
		text("\n"), text(strings.Repeat("a", api.MaxText+1)), {Kind: api.KObject, Keys: []string{"b", "a"}, Items: make([]api.Value, 2)},
		list(make([]api.Value, api.MaxNodes)...), list(api.Value{Kind: 9}), endless[0],
	}
}

// spoilt returns whole with a change.
func spoilt(t testing.TB, change func(h *api.Head)) api.Head {
	h := cloned(whole(t))
	change(&h)
	return h
}

// badHeads lists heads each of which breaks one rule.
func badHeads(t testing.TB) []api.Head {
	l := []api.Head{{}, many(api.MaxPaths+1, 0), many(0, api.MaxPaths+1), many(api.MaxPaths, 10*api.MaxPaths)}
	for _, change := range []func(h *api.Head){
		func(h *api.Head) { h.Cols = nil },
		func(h *api.Head) { h.Cols, h.Stats, h.Paths = nil, nil, nil },
		func(h *api.Head) { h.Cols[0].Name = "b" }, func(h *api.Head) { h.Cols[0].Name = "A" }, func(h *api.Head) { h.Cols[0].Name = "" },
		func(h *api.Head) { h.Cols[2].Name = strings.Repeat("a", api.MaxName+1) },
		func(h *api.Head) { h.Cols[2].Type = 0 }, func(h *api.Head) { h.Cols[2].Type = 5 }, func(h *api.Head) { h.Cols[2].Type = -1 },
		func(h *api.Head) { h.First = 0 }, func(h *api.Head) { h.First = -1 }, func(h *api.Head) { h.First = 4 }, func(h *api.Head) { h.Last = 0 },
		func(h *api.Head) { h.Last = api.MaxId + 1 }, func(h *api.Head) { h.Last = 1<<63 - 1 }, func(h *api.Head) { h.First, h.Last = api.MaxId+1, api.MaxId+1 },
		func(h *api.Head) { h.Stats = nil }, func(h *api.Head) { h.Stats = h.Stats[:3] }, func(h *api.Head) { h.Stats = append(h.Stats, h.Stats[2]) },
		func(h *api.Head) { h.Rows = 4 }, func(h *api.Head) { h.Rows = 0 }, func(h *api.Head) { h.Rows = -3 },
		func(h *api.Head) { h.Paths[0].Col = 0 }, func(h *api.Head) { h.Paths[0].Col = -1 }, func(h *api.Head) { h.Paths[3].Col = 2 },
		func(h *api.Head) { h.Paths[3].Col = 4 }, func(h *api.Head) { h.Paths[3].Col = 1<<63 - 1 }, func(h *api.Head) { h.Paths[2].Col = 3 },
		func(h *api.Head) { h.Paths[3].Path = nil }, func(h *api.Head) { h.Paths[3].Path = keys("a", "b", "c") },
		func(h *api.Head) { h.Paths[3].Path = keys("\n") }, func(h *api.Head) { h.Paths[3].Path = keys("a", strings.Repeat("a", api.MaxText+1)) },
		func(h *api.Head) { h.Paths[0].Path = []api.Step{{}} }, func(h *api.Head) { h.Paths[3].Path = append(keys("a"), api.Step{Index: 1}) },
		func(h *api.Head) { h.Paths[3].Path = append([]api.Step{{Index: 1}}, keys("a")...) }, func(h *api.Head) { h.Paths[3].Path = []api.Step{{Index: -2, Key: "a"}} },
		func(h *api.Head) { slices.Reverse(h.Paths) }, func(h *api.Head) { h.Paths[0], h.Paths[1] = h.Paths[1], h.Paths[0] }, func(h *api.Head) { h.Paths[1], h.Paths[2] = h.Paths[2], h.Paths[1] },
		func(h *api.Head) { h.Paths = append(h.Paths, h.Paths[3]) }, func(h *api.Head) { h.Paths = append(h.Paths, h.Paths[0]) }, func(h *api.Head) { h.Paths[1].Path = h.Paths[0].Path },
	} {
		l = append(l, spoilt(t, change))
	}
	return append(l, badStats(t)...)
}

// badStats lists heads in which statistics of a column, or those at a path, are not consistent.
func badStats(t testing.TB) []api.Head {
	var l []api.Head
	set := func(change func(s *api.Stat)) {
		l = append(l, spoilt(t, func(h *api.Head) { change(&h.Stats[1]) }), spoilt(t, func(h *api.Head) { change(&h.Paths[2].Stat) }))
	}
	for _, s := range []api.Stat{
		{Rows: 2, Min: number(1), Max: number(2)}, {Rows: 4, Min: number(1), Max: number(2)}, {Rows: 0}, {Rows: 0, Min: number(1), Max: number(1)},
		{Rows: 3, Nulls: -1, Min: number(1), Max: number(2)}, {Rows: 3, Nulls: 4}, {Rows: 3, Nulls: 4, Min: number(1), Max: number(2)},
		{Rows: 3, Nulls: 3, Min: number(1), Max: number(2)}, {Rows: 3, Nulls: 3, Min: number(1)}, {Rows: 3, Nulls: 3, Max: number(1)},
		{Rows: 3}, {Rows: 3, Nulls: 2}, {Rows: 3, Min: number(1)}, {Rows: 3, Max: number(1)}, {Rows: 3, Min: number(2), Max: number(1)}, {Rows: 3, Min: text(""), Max: number(1)},
	} {
		set(func(to *api.Stat) { *to = s })
	}
	for _, v := range badValues() {
		set(func(s *api.Stat) { s.Min = v })
		set(func(s *api.Stat) { s.Max = v })
		set(func(s *api.Stat) { s.Nulls, s.Min, s.Max = 3, api.Value{}, v })
		set(func(s *api.Stat) { s.Nulls, s.Min, s.Max = 3, v, api.Value{} })
	}
	for _, s := range []api.Stat{
		{Rows: 3, Min: text("1"), Max: text("2")}, {Rows: 3, Min: number(1), Max: text("2")}, {Rows: 3, Min: truth(1), Max: number(2)}, {Rows: 3, Min: number(1), Max: list()},
	} {
		l = append(l, spoilt(t, func(h *api.Head) { h.Stats[0] = s }))
	}
	return l
}

func TestValid(t *testing.T) {
	good := []api.Head{
		whole(t), headOf(t, "a:int 3"), headOf(t, "a:text 2 [\"\",\"\"]"), headOf(t, "a:variant 0 [false,{}]"), many(0, 0), many(api.MaxPaths, api.MaxPaths),
		spoilt(t, func(h *api.Head) { h.First = 3 }), spoilt(t, func(h *api.Head) { h.First, h.Last = 5, 5 }), spoilt(t, func(h *api.Head) { h.Last = api.MaxId }), spoilt(t, func(h *api.Head) { h.Paths = nil }),
		spoilt(t, func(h *api.Head) { h.Stats[0].Nulls, h.Stats[0].Max = 2, number(2) }), spoilt(t, func(h *api.Head) { h.Stats[0].Min, h.Stats[0].Max = number(-api.MaxInt), number(api.MaxInt) }),
		spoilt(t, func(h *api.Head) { h.Paths[3].Path = keys("") }), spoilt(t, func(h *api.Head) { h.Paths[3].Path = keys("a b", strings.Repeat("~", api.MaxText)) }),
		nulls(1), nulls(api.MaxPart),
	}
	for _, h := range good {
		if !zone.Valid(h) {
			t.Errorf("%s is not valid", shownHead(h))
		}
	}
	for i, h := range append(badHeads(t), nulls(-1), nulls(0), nulls(api.MaxPart+1)) {
		if zone.Valid(h) {
			t.Errorf("bad head %d is valid: %+v", i, h)
		}
	}
}

// The heads of partitions are valid.
func TestValidHeadsOfPartitions(t *testing.T) {
	d := dice(1)
	for range 500 {
		r := d.rows()
		h, e := part.Head(r)
		if e != api.OK || !zone.Valid(h) {
			t.Fatalf("Head = %s, %d; not valid", shownHead(h), e)
		}
	}
}

// An argument that is not valid comes before a name that is missing, and there are no results with it.
func TestErrors(t *testing.T) {
	good, missing := whole(t), parsed(t, "(if 'true a e)")
	kids := make([]api.Expr, 1)
	kids[0] = op("not", kids...)
	kids[0].Kids = kids
	type call struct {
		h    api.Head
		x    api.Expr
		want api.Errno
	}
	calls := []call{{good, missing, api.ErrName}, {good, col("a"), api.OK}, {headOf(t, "e:int 3", "a:int 3"), missing, api.OK}, {headOf(t, "e:int 3"), missing, api.ErrName}}
	for _, h := range badHeads(t) {
		calls = append(calls, call{h, missing, api.ErrForm}, call{h, col("a"), api.ErrForm})
	}
	for _, x := range []api.Expr{{}, op("foo", col("e")), op("not"), op("and", col("e")), col("E"), constant(api.Value{Kind: 7}), op("list", make([]api.Expr, 100)...), kids[0], op("list", slices.Repeat([]api.Expr{col("a")}, api.MaxExpr)...)} {
		calls = append(calls, call{good, x, api.ErrForm}, call{api.Head{}, x, api.ErrForm})
	}
	for i, c := range calls {
		s, e := zone.Of(c.h, c.x)
		if e != c.want || e != api.OK && shownSpan(s) != "" {
			t.Errorf("%d: Of = %s, %d; want %d", i, shownSpan(s), e, c.want)
		}
		z, e := zone.Zone(c.h, c.x)
		if e != c.want || e != api.OK && z != (api.Zone{}) {
			t.Errorf("%d: Zone = %s, %d; want %d", i, shownZone(z), e, c.want)
		}
		v, e := zone.Verdict(c.h, c.x)
		if e != c.want || e != api.OK && v != "" {
			t.Errorf("%d: Verdict = %s, %d; want %d", i, v, e, c.want)
		}
		some, all, e := zone.Split([]api.Head{c.h}, c.x)
		if e != c.want || e != api.OK && len(some)+len(all) > 0 {
			t.Errorf("%d: Split = %v, %v, %d; want %d", i, some, all, e, c.want)
		}
	}
}
