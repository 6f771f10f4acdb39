package part_test

import (
	"cmp"
	"encoding/binary"
	"hash/adler32"
	"slices"
	"strconv"
	"strings"
	"testing"

	"cirrus/api"
	"cirrus/chunk"
	"cirrus/part"
	"cirrus/value"
	"cirrus/variant"
)

func number(n int) api.Value { return api.Value{Kind: api.KInt, Int: n} }

func text(s string) api.Value { return api.Value{Kind: api.KText, Text: s} }

func list(l ...api.Value) api.Value { return api.Value{Kind: api.KList, Items: l} }

// typed returns columns of which each is written as its name, a colon and its type.
func typed(s string) []api.Column {
	types := map[string]int{"truth": api.TTruth, "int": api.TInt, "text": api.TText, "variant": api.TVariant}
	var cols []api.Column
	for _, f := range strings.Fields(s) {
		name, typ, _ := strings.Cut(f, ":")
		cols = append(cols, api.Column{Name: name, Type: types[typ]})
	}
	return cols
}

// values returns the items of the list that s denotes.
func values(t *testing.T, s string) []api.Value {
	t.Helper()
	v, e := value.Parse(s)
	if e != api.OK || v.Kind != api.KList {
		t.Fatalf("Parse(%s): %d", s, e)
	}
	return v.Items
}

// rowsOf returns rows with columns written as for typed, each row as its number, a blank and the list of its values.
func rowsOf(t *testing.T, cols string, rows ...string) api.Rows {
	t.Helper()
	made := api.Rows{Cols: typed(cols)}
	for _, s := range rows {
		id, vals, _ := strings.Cut(s, " ")
		n, err := strconv.Atoi(id)
		if err != nil {
			t.Fatal(err)
		}
		made.Rows = append(made.Rows, api.Row{Id: n, Vals: values(t, vals)})
	}
	return made
}

// counting returns so many rows with one column, which has the ints from 0, numbered from 1.
func counting(n int) api.Rows {
	r := api.Rows{Cols: typed("a:int")}
	for i := range n {
		r.Rows = append(r.Rows, api.Row{Id: i + 1, Vals: []api.Value{number(i)}})
	}
	return r
}

// form returns the textual form of a value; of one that is not valid, that it is not.
func form(v api.Value) string {
	s, e := value.Text(v)
	if e != api.OK {
		return "not valid"
	}
	return s
}

func forms(l []api.Value) string {
	var all []string
	for _, v := range l {
		all = append(all, form(v))
	}
	return "[" + strings.Join(all, ",") + "]"
}

func shownCols(cols []api.Column) string {
	var all []string
	for _, c := range cols {
		all = append(all, c.Name+":"+strconv.Itoa(c.Type))
	}
	return strings.Join(all, " ")
}

// shown returns all that is in rows.
func shown(r api.Rows) string {
	all := []string{shownCols(r.Cols)}
	for _, row := range r.Rows {
		all = append(all, strconv.Itoa(row.Id)+" "+forms(row.Vals))
	}
	return strings.Join(all, "; ")
}

// shownStat returns the numbers of rows and of nulls, the first and the last value.
func shownStat(s api.Stat) string {
	return strconv.Itoa(s.Rows) + " " + strconv.Itoa(s.Nulls) + " " + form(s.Min) + " " + form(s.Max)
}

// shownPaths returns the statistics at paths, each after its column and its path.
func shownPaths(l []api.PathStat) string {
	var all []string
	for _, p := range l {
		path, e := variant.PathText(p.Path)
		if e != api.OK {
			path = "not valid"
		}
		all = append(all, strconv.Itoa(p.Col)+" "+path+" "+shownStat(p.Stat))
	}
	return strings.Join(all, "; ")
}

// shownHead returns all that is in a head.
func shownHead(h api.Head) string {
	all := []string{shownCols(h.Cols), strconv.Itoa(h.Rows) + " " + strconv.Itoa(h.First) + " " + strconv.Itoa(h.Last)}
	for _, s := range h.Stats {
		all = append(all, shownStat(s))
	}
	return strings.Join(all, "; ") + " | " + shownPaths(h.Paths)
}

func noRows(r api.Rows) bool { return len(r.Cols) == 0 && len(r.Rows) == 0 }

func noHead(h api.Head) bool { return shownHead(h) == shownHead(api.Head{}) }

func noStat(s api.Stat) bool { return shownStat(s) == shownStat(api.Stat{}) }

// packed returns the bytes of a partition.
func packed(t *testing.T, r api.Rows) string {
	t.Helper()
	s, e := part.Pack(r)
	if e != api.OK {
		t.Fatalf("Pack(%s): %d", shown(r), e)
	}
	return s
}

// columnAt returns the values of a column.
func columnAt(r api.Rows, i int) []api.Value {
	var l []api.Value
	for _, row := range r.Rows {
		l = append(l, row.Vals[i])
	}
	return l
}

// sealed returns the bytes with their checksum, which others call Adler-32.
func sealed(bytes string) string {
	return string(binary.BigEndian.AppendUint32([]byte(bytes), adler32.Checksum([]byte(bytes))))
}

// defined returns the bytes of a partition as the chapter defines them. What it calls a number others call a varint.
func defined(r api.Rows) string {
	b := []byte("cir1")
	count := func(n int) { b = binary.AppendUvarint(b, uint64(n)) }
	piece := func(s string) {
		count(len(s))
		b = append(b, s...)
	}
	count(len(r.Cols))
	for _, c := range r.Cols {
		piece(c.Name)
		b = append(b, byte(c.Type))
	}
	ids := binary.AppendUvarint(nil, uint64(len(r.Rows)))
	before := 0
	for _, row := range r.Rows {
		ids = binary.AppendVarint(ids, int64(row.Id-before))
		before = row.Id
	}
	piece(string(ids))
	for i := range r.Cols {
		enc, code, _ := chunk.Best(columnAt(r, i))
		b = append(b, byte(enc))
		piece(code)
	}
	return sealed(string(b))
}

// definedStat returns the statistics as the chapter defines them.
func definedStat(l []api.Value) api.Stat {
	sorted, _ := value.Sort(l)
	s := api.Stat{Rows: len(l)}
	for s.Nulls < len(l) && sorted[s.Nulls].Kind == api.KNull {
		s.Nulls++
	}
	if s.Nulls < len(l) {
		s.Min, s.Max = sorted[s.Nulls], sorted[len(l)-1]
	}
	return s
}

// item returns what lies at a key of a value, and whether there is something.
func item(v api.Value, key string) (api.Value, bool) {
	if i := slices.Index(v.Keys, key); i >= 0 {
		return v.Items[i], true
	}
	return api.Value{}, false
}

func isSingle(v api.Value) bool {
	return v.Kind == api.KTruth || v.Kind == api.KInt || v.Kind == api.KText
}

// definedPaths returns the statistics at the paths of a column as the chapter defines them, with paths as lists of keys.
func definedPaths(col int, l []api.Value) []api.PathStat {
	var paths [][]string
	for _, v := range l {
		for _, a := range v.Keys {
			w, _ := item(v, a)
			if isSingle(w) {
				paths = append(paths, []string{a})
			}
			for _, b := range w.Keys {
				if x, _ := item(w, b); isSingle(x) {
					paths = append(paths, []string{a, b})
				}
			}
		}
	}
	slices.SortFunc(paths, slices.Compare)
	paths = slices.CompactFunc(paths, slices.Equal)
	var all []api.PathStat
	for _, keys := range paths[:min(len(paths), 8)] {
		p := api.PathStat{Col: col}
		there := slices.Clone(l)
		for _, key := range keys {
			p.Path = append(p.Path, api.Step{Index: -1, Key: key})
			for i, v := range there {
				there[i], _ = item(v, key)
			}
		}
		p.Stat = definedStat(there)
		all = append(all, p)
	}
	return all
}

// definedHead returns the head of a partition as the chapter defines it.
func definedHead(r api.Rows) api.Head {
	byId := func(a, b api.Row) int { return cmp.Compare(a.Id, b.Id) }
	h := api.Head{Cols: r.Cols, Rows: len(r.Rows), First: slices.MinFunc(r.Rows, byId).Id, Last: slices.MaxFunc(r.Rows, byId).Id}
	for i, c := range r.Cols {
		l := columnAt(r, i)
		h.Stats = append(h.Stats, definedStat(l))
		if c.Type == api.TVariant {
			h.Paths = append(h.Paths, definedPaths(i, l)...)
		}
	}
	return h
}

// memory is the addresses of the elements of slices, what lies behind their ends included.
type memory map[any]bool

// note adds the elements of a slice, and reports whether none of them was there already.
func note[T any](m memory, l []T) bool {
	l = l[:cap(l)]
	for i := range l {
		if m[&l[i]] {
			return false
		}
		m[&l[i]] = true
	}
	return true
}

func (m memory) values(l []api.Value) bool {
	ok := note(m, l)
	for _, v := range l[:cap(l)] {
		ok = m.value(v) && ok
	}
	return ok
}

func (m memory) value(v api.Value) bool {
	ok := note(m, v.Keys)
	return m.values(v.Items) && ok
}

func (m memory) rows(r api.Rows) bool {
	ok := note(m, r.Cols)
	ok = note(m, r.Rows) && ok
	for _, row := range r.Rows {
		ok = m.values(row.Vals) && ok
	}
	return ok
}

func (m memory) stat(s api.Stat) bool {
	ok := m.value(s.Min)
	return m.value(s.Max) && ok
}

func (m memory) head(h api.Head) bool {
	ok := note(m, h.Cols)
	ok = note(m, h.Stats) && note(m, h.Paths) && ok
	for _, s := range h.Stats {
		ok = m.stat(s) && ok
	}
	for _, p := range h.Paths {
		ok = note(m, p.Path) && m.stat(p.Stat) && ok
	}
	return ok
}
