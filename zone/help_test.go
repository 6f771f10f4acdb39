package zone_test

import (
	"slices"
	"strconv"
	"strings"
	"testing"

	"cirrus/api"
	"cirrus/expr"
	"cirrus/value"
	"cirrus/variant"
	"cirrus/zone"
)

func number(n int) api.Value { return api.Value{Kind: api.KInt, Int: n} }

func text(s string) api.Value { return api.Value{Kind: api.KText, Text: s} }

func list(l ...api.Value) api.Value { return api.Value{Kind: api.KList, Items: l} }

func truth(n int) api.Value { return api.Value{Kind: api.KTruth, Int: n} }

func col(name string) api.Expr { return api.Expr{Op: "col", Name: name} }

func constant(v api.Value) api.Expr { return api.Expr{Op: "const", Val: v} }

func op(op string, kids ...api.Expr) api.Expr { return api.Expr{Op: op, Kids: kids} }

func at(op string, p []api.Step, kids ...api.Expr) api.Expr {
	return api.Expr{Op: op, Path: p, Kids: kids}
}

func keys(l ...string) []api.Step {
	var p []api.Step
	for _, key := range l {
		p = append(p, api.Step{Index: -1, Key: key})
	}
	return p
}

func parsed(t testing.TB, s string) api.Expr {
	t.Helper()
	x, e := expr.Parse(s)
	if e != api.OK {
		t.Fatalf("Parse(%s): %d", s, e)
	}
	return x
}

// statOf returns the statistics of three values, written as how many are null, a blank, and a list of the least and the greatest one.
func statOf(t testing.TB, s string) api.Stat {
	t.Helper()
	nulls, bounds, _ := strings.Cut(s, " ")
	n, err := strconv.Atoi(nulls)
	if err != nil {
		t.Fatal(err)
	}
	made := api.Stat{Rows: 3, Nulls: n}
	if bounds == "" {
		return made
	}
	v, e := value.Parse(bounds)
	if e != api.OK || len(v.Items) != 2 {
		t.Fatalf("Parse(%s): %d", bounds, e)
	}
	made.Min, made.Max = v.Items[0], v.Items[1]
	return made
}

// headOf returns the head of three rows. Each part is a name, a colon and a type, or the path into the last column before it;
// a blank; and the statistics.
func headOf(t testing.TB, parts ...string) api.Head {
	t.Helper()
	types := map[string]int{"truth": api.TTruth, "int": api.TInt, "text": api.TText, "variant": api.TVariant}
	h := api.Head{Rows: 3, First: 1, Last: 3}
	for _, s := range parts {
		word, stat, _ := strings.Cut(s, " ")
		if path, e := variant.ParsePath(word); e == api.OK {
			h.Paths = append(h.Paths, api.PathStat{Col: len(h.Cols) - 1, Path: path, Stat: statOf(t, stat)})
			continue
		}
		name, typ, _ := strings.Cut(word, ":")
		h.Cols = append(h.Cols, api.Column{Name: name, Type: types[typ]})
		h.Stats = append(h.Stats, statOf(t, stat))
	}
	if !zone.Valid(h) {
		t.Fatalf("the head is not valid: %v", parts)
	}
	return h
}

// form returns the textual form of a value; of one that is not valid, that it is not.
func form(v api.Value) string {
	s, e := value.Text(v)
	if e != api.OK {
		return "not valid"
	}
	return s
}

// exprForm returns the textual form of an expression; of one that is not valid, that it is not.
func exprForm(x api.Expr) string {
	s, e := expr.Text(x)
	if e != api.OK {
		return "not valid"
	}
	return s
}

// shownSpan returns whether there can be null, then the bounds, or a question mark if they are not known.
func shownSpan(s api.Span) string {
	var all []string
	if s.Null {
		all = append(all, "null")
	}
	switch {
	case s.Some && s.Known:
		all = append(all, form(s.Min)+".."+form(s.Max))
	case s.Some && isNull(s.Min) && isNull(s.Max):
		all = append(all, "?")
	case s.Some || s.Known || !isNull(s.Min) || !isNull(s.Max):
		all = append(all, "fields that mean nothing")
	}
	return strings.Join(all, " ")
}

// shownZone returns a letter for each possible truth.
func shownZone(z api.Zone) string {
	s := ""
	if z.True {
		s += "T"
	}
	if z.False {
		s += "F"
	}
	if z.Null {
		s += "N"
	}
	return s
}

// shownVerdict returns the verdict that follows from the truths as shownZone writes them.
func shownVerdict(truths string) string {
	switch {
	case truths == "T":
		return "always"
	case strings.Contains(truths, "T"):
		return "perhaps"
	}
	return "never"
}

func shownStat(s api.Stat) string {
	return strconv.Itoa(s.Rows) + " " + strconv.Itoa(s.Nulls) + " " + form(s.Min) + " " + form(s.Max)
}

// shownHead returns all that is in a head.
func shownHead(h api.Head) string {
	all := []string{strconv.Itoa(h.Rows) + " " + strconv.Itoa(h.First) + " " + strconv.Itoa(h.Last)}
	for i, c := range h.Cols {
		all = append(all, c.Name+":"+strconv.Itoa(c.Type)+" "+shownStat(h.Stats[i]))
	}
	for _, p := range h.Paths {
		path, _ := variant.PathText(p.Path)
		all = append(all, strconv.Itoa(p.Col)+" "+path+" "+shownStat(p.Stat))
	}
	return strings.Join(all, "; ")
}

func isNull(v api.Value) bool { return v.Kind == api.KNull }

// spanOf returns the possible values of an expression that has some.
func spanOf(t testing.TB, h api.Head, x api.Expr) api.Span {
	t.Helper()
	s, e := zone.Of(h, x)
	if e != api.OK {
		t.Fatalf("Of(%s): %d", exprForm(x), e)
	}
	return s
}

// zoneOf returns the possible truths of an expression that has some.
func zoneOf(t testing.TB, h api.Head, x api.Expr) api.Zone {
	t.Helper()
	z, e := zone.Zone(h, x)
	if e != api.OK {
		t.Fatalf("Zone(%s): %d", exprForm(x), e)
	}
	return z
}

// verdictOf returns the verdict of an expression that has one.
func verdictOf(t testing.TB, h api.Head, x api.Expr) string {
	t.Helper()
	v, e := zone.Verdict(h, x)
	if e != api.OK {
		t.Fatalf("Verdict(%s): %d", exprForm(x), e)
	}
	return v
}

// order compares valid values.
func order(a, b api.Value) int {
	c, _ := value.Compare(a, b)
	return c
}

// among reports whether v is among the possible values.
func among(v api.Value, s api.Span) bool {
	if isNull(v) {
		return s.Null
	}
	return s.Some && (!s.Known || order(s.Min, v) <= 0 && order(v, s.Max) <= 0)
}

// truthOf returns the zone of one value only.
func truthOf(v api.Value) api.Zone {
	switch form(v) {
	case "true":
		return api.Zone{True: true}
	case "false":
		return api.Zone{False: true}
	}
	return api.Zone{Null: true}
}

// both returns what is possible in one of two zones.
func both(a, b api.Zone) api.Zone {
	return api.Zone{True: a.True || b.True, False: a.False || b.False, Null: a.Null || b.Null}
}

// memory is the addresses of the elements of slices, what lies behind their ends included.
type memory map[any]bool

// note adds the elements of a slice, and reports whether none of them was there already.
func note[T any](m memory, l []T) bool {
	l = l[:cap(l)]
	for i := range l {
		if m[&l[i]] {
			return false
		}
		m[&l[i]] = true
	}
	return true
}

func (m memory) value(v api.Value) bool {
	ok := note(m, v.Keys)
	ok = note(m, v.Items) && ok
	for _, item := range v.Items[:cap(v.Items)] {
		ok = m.value(item) && ok
	}
	return ok
}

func (m memory) expr(x api.Expr) {
	m.value(x.Val)
	for _, kid := range x.Kids {
		m.expr(kid)
	}
}

func (m memory) head(h api.Head) {
	for _, s := range h.Stats {
		m.value(s.Min)
		m.value(s.Max)
	}
	for _, p := range h.Paths {
		m.value(p.Stat.Min)
		m.value(p.Stat.Max)
	}
}

// cloned returns the head with slices of its own for all that tests change.
func cloned(h api.Head) api.Head {
	h.Cols, h.Stats, h.Paths = slices.Clone(h.Cols), slices.Clone(h.Stats), slices.Clone(h.Paths)
	return h
}
