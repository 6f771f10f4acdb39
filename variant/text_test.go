package variant_test

import (
	"slices"
	"strings"
	"testing"

	"cirrus/api"
	"cirrus/variant"
)

func TestPathText(t *testing.T) {
	long := strings.Repeat("a", api.MaxName)
	for want, p := range map[string][]api.Step{
		`$`:                          nil,
		`$.a`:                        steps(key("a")),
		`$.a_9.z`:                    steps(key("a_9"), key("z")),
		`$.null`:                     steps(key("null")),
		`$[0]`:                       steps(index(0)),
		`$[10][99]`:                  steps(index(10), index(99)),
		`$.a[0].b`:                   steps(key("a"), index(0), key("b")),
		`$[""]`:                      steps(key("")),
		`$["A"]`:                     steps(key("A")),
		`$["9a"].a`:                  steps(key("9a"), key("a")),
		`$["0"][0]`:                  steps(key("0"), index(0)),
		`$["_"]`:                     steps(key("_")),
		`$["b c"].d`:                 steps(key("b c"), key("d")),
		`$["a.b"]["a[0]"]`:           steps(key("a.b"), key("a[0]")),
		`$["\""]["\\"]`:              steps(key(`"`), key(`\`)),
		`$["\\\""]["]"]["[\"].a\""]`: steps(key(`\"`), key(`]`), key(`["].a"`)),
		`$["$"]["."]["["]`:           steps(key("$"), key("."), key("[")),
		`$.` + long:                  steps(key(long)),
		`$["` + long + `a"]`:         steps(key(long + "a")),
		`$["` + strings.Repeat(`\\`, api.MaxText) + `"]`: steps(key(strings.Repeat(`\`, api.MaxText))),
		`$.a.a.a.a.a.a`:      slices.Repeat(steps(key("a")), api.MaxPath),
		`$[1][1][1][1][1].a`: steps(index(1), index(1), index(1), index(1), index(1), key("a")),
	} {
		if got, e := variant.PathText(p); got != want || e != api.OK {
			t.Errorf("PathText(%v) = %s, %d; not %s", p, got, e, want)
		}
		if got, e := variant.ParsePath(want); !slices.Equal(got, p) || e != api.OK {
			t.Errorf("ParsePath(%s) = %v, %d", want, got, e)
		}
	}
}

func TestParsePathErrors(t *testing.T) {
	for _, s := range []string{
		"", " ", "$ ", " $", "$$", "a", "$a", ".a", "[0]", "$.", "$..a", "$.a.", "$.A", "$._a", "$.9", "$.0", "$.a b", "$.a ", "$. a", "$.a-b", "$.ä", "$.\"a\"", "$a.b", "$.a$",
		"$[", "$]", "$[]", "$[0", "$0]", "$[0]]", "$[[0]]", "$[0]a", "$[0]0]", "$[01]", "$[00]", "$[-1]", "$[-0]", "$[+1]", "$[ 1]", "$[1 ]", "$[1.]", "$[1.0]", "$[100]", "$[99999999999999999999]", "$[18446744073709551616]", "$.[0]", "$[0].", "$[0] ", "$ [0]", "$[0] [0]",
		`$["a"]`, `$["a_9"]`, `$["A"`, `$["A]`, `$[A"]`, `$[A]`, `$[a]`, `$['A']`, `$[ "A"]`, `$["A" ]`, `$["A"]]`, `$["A""B"]`, `$["A"].`, `$["\A"]`, `$["\"]`, `$["A\]`, `$["""]`, `$.["A"]`, `$"A"`, `$["A"],["B"]`,
		`$[null]`, `$[true]`, `$[false]`, `$[[]]`, `$[{}]`, `$[[1]]`, `$[1,2]`, `$["A":1]`, `$[*]`, `$.*`,
		"$[\"\x1f\"]", "$[\"\x7f\"]", "$[\"ä\"]", "$[\"\xff\"]", "$\x00", "$.a\n", "$.\xff",
		`$.` + strings.Repeat("a", api.MaxName+1), `$["` + strings.Repeat("A", api.MaxText+1) + `"]`,
		`$.a.a.a.a.a.a.a`, `$[0][0][0][0][0][0][0]`, `$.a.a.a.a.a.a.`, `$.a.a.a.a.a.a[`,
		"$" + strings.Repeat(".a", 1<<20), "$" + strings.Repeat("[", 1<<20), `$["` + strings.Repeat(`\"`, 1<<20), "$." + strings.Repeat("a", 1<<20),
	} {
		if p, e := variant.ParsePath(s); len(p) != 0 || e != api.ErrParse {
			t.Errorf("ParsePath(%.60q) = %v, %d", s, p, e)
		}
	}
}

// P2.5.
func TestPathTextAndBack(t *testing.T) {
	d := dice(10)
	all := rising()
	for range 2000 {
		all = append(all, d.path())
		var p []api.Step
		for range d.roll(api.MaxPath + 1) {
			var b []byte
			for range d.roll(6) {
				b = append(b, `ab9_A"\[].$ ~`[d.roll(13)])
			}
			p = append(p, key(string(b)))
		}
		all = append(all, p)
	}
	for _, p := range all {
		s, e := variant.PathText(p)
		if e != api.OK {
			t.Fatalf("PathText(%v): %d", p, e)
		}
		if got, e := variant.ParsePath(s); !slices.Equal(got, p) || e != api.OK {
			t.Fatalf("ParsePath(%s) = %v, %d; not %v", s, got, e, p)
		}
	}
}

// Two results have memory of their own.
func TestParsePathMakesNewMemory(t *testing.T) {
	a, b := path(t, "$.a[0]"), path(t, "$.a[0]")
	scribblePath(a)
	if shownPath(b) != "$.a[0]" {
		t.Errorf("two results share memory: %v", b)
	}
}

// FuzzParsePath checks, for any text, that what is parsed is a valid path, whose textual form is the text.
func FuzzParsePath(f *testing.F) {
	for _, p := range rising() {
		f.Add(shownPath(p))
	}
	f.Add(`$["\\\""]["]"].a[99]`)
	f.Add(`$["a"]`)
	f.Add(`$[01]`)
	f.Fuzz(func(t *testing.T, s string) {
		p, e := variant.ParsePath(s)
		if e != api.OK {
			if e != api.ErrParse || len(p) != 0 {
				t.Fatalf("ParsePath(%q) = %v, %d", s, p, e)
			}
			return
		}
		if !variant.Valid(p) || shownPath(p) != s {
			t.Fatalf("ParsePath(%q) = %v", s, p)
		}
	})
}
