package variant_test

import (
	"encoding/json"
	"slices"
	"strconv"
	"strings"
	"testing"

	"cirrus/api"
	"cirrus/value"
	"cirrus/variant"
)

func key(s string) api.Step { return api.Step{Index: -1, Key: s} }

func index(n int) api.Step { return api.Step{Index: n} }

func steps(s ...api.Step) []api.Step { return s }

func number(n int) api.Value { return api.Value{Kind: api.KInt, Int: n} }

func parsed(t *testing.T, s string) api.Value {
	t.Helper()
	v, e := value.Parse(s)
	if e != api.OK {
		t.Fatalf("Parse(%s): %d", s, e)
	}
	return v
}

func path(t *testing.T, s string) []api.Step {
	t.Helper()
	p, e := variant.ParsePath(s)
	if e != api.OK {
		t.Fatalf("ParsePath(%s): %d", s, e)
	}
	return p
}

// shown returns the textual form of a value; of one that is not valid, that it is not.
func shown(v api.Value) string {
	s, e := value.Text(v)
	if e != api.OK {
		return "not valid"
	}
	return s
}

func shownPath(p []api.Step) string {
	s, e := variant.PathText(p)
	if e != api.OK {
		return "not valid"
	}
	return s
}

// check compares what a function returned with what it must return: a text, or an error and null.
func check(t *testing.T, what string, got api.Value, e api.Errno, want string, bad api.Errno) {
	t.Helper()
	if bad != api.OK {
		want = "null"
	}
	if shown(got) != want || e != bad {
		t.Errorf("%s = %s, %d; not %s, %d", what, shown(got), e, want, bad)
	}
}

// same reports whether two values are valid and the same; those of all fields are if they are equal (P1.4).
func same(a, b api.Value) bool {
	c, e := value.Compare(a, b)
	return c == 0 && e == api.OK
}

// twin returns the value with memory of its own.
func twin(v api.Value) api.Value {
	l, _ := value.Sort([]api.Value{v})
	return l[0]
}

// scribble writes over all the memory of v, what lies behind the ends of slices included.
func scribble(v api.Value) {
	for i := range v.Items[:cap(v.Items)] {
		scribble(v.Items[:cap(v.Items)][i])
		v.Items[:cap(v.Items)][i] = number(-77)
	}
	for i := range v.Keys[:cap(v.Keys)] {
		v.Keys[:cap(v.Keys)][i] = "scribble"
	}
}

func scribblePath(p []api.Step) {
	for i := range p[:cap(p)] {
		p[:cap(p)][i] = key("scribble")
	}
}

func scribbleLeaves(l []api.Leaf) {
	for i := range l {
		scribblePath(l[i].Path)
		scribble(l[i].Value)
		l[i] = api.Leaf{Value: number(-77)}
	}
}

// list returns the text of a list of so many ints.
func list(n int) string {
	return "[" + strings.TrimSuffix(strings.Repeat("1,", n), ",") + "]"
}

// object returns the text of an object with so many entries, whose keys begin with that letter.
func object(letter string, n int) string {
	var l []string
	for i := range n {
		l = append(l, `"`+letter+strconv.Itoa(i+100)+`":1`)
	}
	return "{" + strings.Join(l, ",") + "}"
}

// nested returns the text of s in so many lists.
func nested(n int, s string) string {
	return strings.Repeat("[", n) + s + strings.Repeat("]", n)
}

// badValues lists values each of which is invalid in another way.
func badValues() []api.Value {
	endless := make([]api.Value, 2)
	for i := range endless {
		endless[i] = api.Value{Kind: api.KList, Items: endless}
	}
	ring := make([]api.Value, 1)
	ring[0] = api.Value{Kind: api.KObject, Keys: []string{"a"}, Items: ring}
	deep := api.Value{}
	for range api.MaxDepth {
		deep = api.Value{Kind: api.KList, Items: []api.Value{deep}}
	}
	return []api.Value{
		{Kind: -1}, {Kind: 6}, {Int: 1}, {Kind: api.KTruth, Int: 2}, number(api.MaxInt + 1), {Kind: api.KText, Text: "\n"},
		{Kind: api.KObject, Keys: []string{"b", "a"}, Items: make([]api.Value, 2)},
		{Kind: api.KObject, Keys: []string{"a"}},
		{Kind: api.KList, Items: make([]api.Value, api.MaxNodes)},
		{Kind: api.KList, Items: []api.Value{{Kind: 9}}},
		deep, endless[0], ring[0],
	}
}

// badPaths lists paths each of which is invalid in another way.
func badPaths() [][]api.Step {
	return [][]api.Step{
		steps(index(-2)), steps(index(api.MaxIndex + 1)), steps(index(-1 << 63)), steps(index(1<<63 - 1)),
		steps(api.Step{Index: 0, Key: "a"}), steps(api.Step{Index: 1, Key: "a"}), steps(api.Step{Index: -2, Key: "a"}),
		steps(key("\x1f")), steps(key("a\x7f")), steps(key("\x80")), steps(key("ä")), steps(key("\x00")),
		steps(key(strings.Repeat("a", api.MaxText+1))),
		steps(key("a"), index(0), index(100)), steps(index(-5), key("a")),
		make([]api.Step, api.MaxPath+1), make([]api.Step, 1000),
	}
}

// dice returns numbers that look like random ones and are always the same.
type dice uint64

func (d *dice) roll(n int) int {
	*d = *d*6364136223846793005 + 1442695040888963407
	return int(uint64(*d)>>33) % n
}

// text returns the text of a value of at most that depth, out of few different parts, so that equal ones occur often.
func (d *dice) text(depth int) string {
	kinds := 6
	if depth == 1 {
		kinds = 4
	}
	switch kind := d.roll(kinds); kind {
	case 0:
		return []string{"null", "true", "[]", "{}"}[d.roll(4)]
	case 1, 2, 3:
		return []string{`1`, `2`, `"a"`, `" \\\""`, `false`, `null`}[d.roll(2*kind)]
	case 4:
		var l []string
		for range d.roll(4) {
			l = append(l, d.text(depth-1))
		}
		return "[" + strings.Join(l, ",") + "]"
	}
	var l []string
	for _, key := range keys() {
		if d.roll(3) == 0 {
			quoted, _ := value.Text(api.Value{Kind: api.KText, Text: key})
			l = append(l, quoted+":"+d.text(depth-1))
		}
	}
	return "{" + strings.Join(l, ",") + "}"
}

func keys() []string { return []string{"", "a", "b", `c "\]`, "B"} }

// value returns a valid value; most are lists and objects.
func (d *dice) value() api.Value {
	for {
		v, e := value.Parse(d.text(4))
		if e == api.OK && (len(v.Items) > 0 || d.roll(5) == 0) {
			return v
		}
	}
}

// path returns a valid path, which leads somewhere in some of those values.
func (d *dice) path() []api.Step {
	var p []api.Step
	for range d.roll(5) {
		p = append(p, index(d.roll(4)))
		if d.roll(3) > 0 {
			p[len(p)-1] = key(keys()[d.roll(5)])
		}
	}
	return p
}

// pathsOf returns the paths of all parts of v.
func pathsOf(t *testing.T, v api.Value) [][]api.Step {
	t.Helper()
	all := [][]api.Step{nil}
	items, e := variant.Flatten(v)
	if e != api.OK {
		t.Fatalf("Flatten(%s): %d", shown(v), e)
	}
	for _, item := range items {
		for _, rest := range pathsOf(t, item.Value) {
			all = append(all, slices.Concat(item.Path, rest))
		}
	}
	return all
}

// related reports whether one path is a prefix of the other one.
func related(p, q []api.Step) bool {
	n := min(len(p), len(q))
	return slices.Equal(p[:n], q[:n])
}

// plain returns the value as maps, slices and strings, on which the definitions are written out once more.
func plain(t *testing.T, v api.Value) any {
	t.Helper()
	var p any
	d := json.NewDecoder(strings.NewReader(shown(v)))
	d.UseNumber()
	if err := d.Decode(&p); err != nil {
		t.Fatal(err)
	}
	return p
}

// plainText returns the textual form of the value that p stands for.
func plainText(t *testing.T, p any) string {
	t.Helper()
	b, err := json.Marshal(p)
	if err != nil {
		t.Fatal(err)
	}
	return shown(parsed(t, string(b)))
}
