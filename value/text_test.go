package value_test

import (
	"slices"
	"strings"
	"testing"

	"cirrus/api"
	"cirrus/value"
)

func TestText(t *testing.T) {
	for _, s := range valid() {
		if got, e := value.Text(s.v); got != s.name || e != api.OK {
			t.Errorf("Text(%v) = %s, %d; not %s", s.v, got, e, s.name)
		}
	}
}

func TestParse(t *testing.T) {
	for _, s := range valid() {
		if got, e := value.Parse(s.name); !same(got, s.v) || e != api.OK {
			t.Errorf("Parse(%s) = %v, %d; not %v", s.name, got, e, s.v)
		}
	}
}

func TestParseBlanksAndOrder(t *testing.T) {
	for s, want := range map[string]string{
		`  null `:                         `null`,
		` -5  `:                           `-5`,
		` " a " `:                         `" a "`,
		` [ ] `:                           `[]`,
		` {   } `:                         `{}`,
		`[1 , 2 ,3]`:                      `[1,2,3]`,
		` [ 1 ,[ ] , { } ] `:              `[1,[],{}]`,
		`[ "a , b" , ": [ ]" ]`:           `["a , b",": [ ]"]`,
		`{ "b":1 , "a":2 }`:               `{"a":2,"b":1}`,
		`{"c":1,"a":2,"b":3}`:             `{"a":2,"b":3,"c":1}`,
		` { " b " : { "z" :1,"y":2} } `:   `{" b ":{"y":2,"z":1}}`,
		`{"aa":1,"a":2,"":3}`:             `{"":3,"a":2,"aa":1}`,
		strings.Repeat(" ", 5000) + "10 ": `10`,
	} {
		v, e := value.Parse(s)
		if got, _ := value.Text(v); got != want || e != api.OK {
			t.Errorf("Parse(%s) = %s, %d", s, got, e)
		}
	}
}

func TestParseErrors(t *testing.T) {
	for _, s := range []string{
		"", " ", "\x00", "x", "nul", "Null", "nulls", "null null", "nu ll", "tru", "truefalse", "falsey", "n", "t", "f",
		"01", "-01", "00", "-0", "-00", "- 1", "-", "--1", "+1", "1.0", "1e2", "1 2", "0x1", "1_0", "1a", "a1",
		"1000000000001", "-1000000000001", "10000000000000", "9223372036854775808", "18446744073709551617", strings.Repeat("9", 1000),
		`"`, `"a`, `"\`, `"\"`, `"\n"`, `"\a"`, `"\u0041"`, `"a"b`, `"a""b"`, `'a'`, "\"\t\"", "\"\x1f\"", "\"\x7f\"", "\"\\\x7f\"", "\"ä\"", "\"\xff\"", "\"\x00\"",
		"[", "]", "[1", "[1,", "[1,]", "[,1]", "[,]", "[1,,2]", "[1 2]", "[1]]", "[1][2]", "[1}", "[1:2]", "(1)", `["a":1]`, "[\t]", "[\n1]", "1\t", "\n1", "\u00a01",
		"{", "}", "{]", `{"a"}`, `{"a":}`, `{"a":1`, `{"a":1,`, `{"a":1,}`, `{,}`, `{,"a":1}`, `{a:1}`, `{1:1}`, `{null:1}`, `{"a" 1}`, `{"a"::1}`, `{"a":1 "b":2}`, `{"a":1;"b":2}`, `{"a":1]`, `{:1}`, `{["a"]:1}`, `{"a",1}`, `{"a":1}}`,
		`{"a":1,"a":1}`, `{"a":1,"b":2,"a":3}`, `{"b":1,"a":1,"b":2}`, `{"":1,"":1}`, `[{"a":{"b":1,"b":1}}]`, `{"\"":1,"\"":2}`,
	} {
		if v, e := value.Parse(s); !same(v, api.Value{}) || e != api.ErrParse {
			t.Errorf("Parse(%q) = %v, %d", s, v, e)
		}
	}
}

func listText(items int) string {
	return "[" + strings.Repeat("1,", items-1) + "1]"
}

func objectText(items int) string {
	var l []string
	for i := range items {
		l = append(l, `"`+strings.Repeat("a", i)+`":1`)
	}
	return "{" + strings.Join(l, ",") + "}"
}

func TestParseLimits(t *testing.T) {
	full := strings.Repeat(`\"`, api.MaxText)
	for s, want := range map[string]api.Errno{
		`"` + full + `"`:                        api.OK,
		`"` + full + `a"`:                       api.ErrParse,
		`"` + strings.Repeat("a", 101) + `"`:    api.ErrParse,
		`{"` + full + `":1}`:                    api.OK,
		`{"` + full + `a":1}`:                   api.ErrParse,
		`[[[[[[]]]]]]`:                          api.OK,
		`[[[[[1]]]]]`:                           api.OK,
		`[[[[[[[]]]]]]]`:                        api.ErrParse,
		`[[[[[[1]]]]]]`:                         api.ErrParse,
		`{"a":{"a":{"a":{"a":{"a":{}}}}}}`:      api.OK,
		`{"a":{"a":{"a":{"a":{"a":{"a":1}}}}}}`: api.ErrParse,
		listText(59):                            api.OK,
		listText(60):                            api.ErrParse,
		objectText(59):                          api.OK,
		objectText(60):                          api.ErrParse,
		"[" + listText(29) + "," + listText(28) + "]": api.OK,
		"[" + listText(29) + "," + listText(29) + "]": api.ErrParse,
		strings.Repeat("[", 1<<20):                    api.ErrParse,
		strings.Repeat("{\"a\":", 1<<20):              api.ErrParse,
		listText(1 << 20):                             api.ErrParse,
		"-" + strings.Repeat("0", 1<<20):              api.ErrParse,
	} {
		if _, e := value.Parse(s); e != want {
			t.Errorf("Parse(%.50s..) = %d", s, e)
		}
	}
}

// What Parse returns has no memory that another result has.
func TestParseMakesNewMemory(t *testing.T) {
	a, _ := value.Parse(`{"a":[1]}`)
	b, _ := value.Parse(`{"a":[1]}`)
	scribble(a.Items)
	a.Keys[0] = "scribble"
	if !same(b, object([]string{"a"}, list(number(1)))) {
		t.Errorf("two results share memory: %v", b)
	}
}

// P1.2, from values.
func TestTextAndBack(t *testing.T) {
	for _, v := range several(t, 2000) {
		s, e := value.Text(v)
		if e != api.OK {
			t.Fatalf("Text(%v): %d", v, e)
		}
		if got, e := value.Parse(s); !same(got, v) || e != api.OK {
			t.Errorf("Parse(%s) = %v, %d; not %v", s, got, e, v)
		}
	}
}

// P1.2, from texts: blanks laid around the punctuation of textual forms change nothing.
func TestParseAndBack(t *testing.T) {
	d := dice(2)
	for _, v := range several(t, 2000) {
		want, _ := value.Text(v)
		s := spaced(want, &d)
		got, e := value.Parse(s)
		if !same(got, v) || e != api.OK {
			t.Errorf("Parse(%s) = %v, %d", s, got, e)
		}
		if again, _ := value.Text(got); again != want {
			t.Errorf("Text of Parse(%s) = %s", s, again)
		}
	}
}

// outside calls each byte of a text of values, telling whether it is outside of strings.
func outside(s string, each func(c byte, out bool)) {
	out := true
	for i := 0; i < len(s); i++ {
		if s[i] == '"' {
			each('"', false)
			out = !out
			continue
		}
		each(s[i], out)
		if !out && s[i] == '\\' && i+1 < len(s) {
			i++
			each(s[i], out)
		}
	}
}

// spaced returns the textual form with some blanks in it.
func spaced(s string, d *dice) string {
	var b strings.Builder
	b.WriteString(strings.Repeat(" ", d.roll(3)))
	outside(s, func(c byte, out bool) {
		mark := out && strings.IndexByte("[]{},:", c) >= 0
		if mark {
			b.WriteString(strings.Repeat(" ", d.roll(3)))
		}
		b.WriteByte(c)
		if mark {
			b.WriteString(strings.Repeat(" ", d.roll(3)))
		}
	})
	b.WriteString(strings.Repeat(" ", d.roll(3)))
	return b.String()
}

// dense returns the text without blanks outside of strings.
func dense(s string) string {
	var b strings.Builder
	outside(s, func(c byte, out bool) {
		if !out || c != ' ' {
			b.WriteByte(c)
		}
	})
	return b.String()
}

func sortedBytes(s string) string {
	b := []byte(s)
	slices.Sort(b)
	return string(b)
}

// FuzzParse checks P1.2 for any text: what is parsed is valid, and has the text's bytes without blanks, if in another order.
func FuzzParse(f *testing.F) {
	for _, s := range valid() {
		f.Add(s.name)
	}
	f.Add(` { "b" : [ 1 , " \" " ] , "a" : -7 } `)
	f.Add(`{"b":1,"a":{"d":[],"c":{}}}`)
	f.Add(`"\x`)
	f.Fuzz(func(t *testing.T, s string) {
		v, e := value.Parse(s)
		if e != api.OK {
			if e != api.ErrParse || !same(v, api.Value{}) {
				t.Fatalf("Parse(%q) = %v, %d", s, v, e)
			}
			return
		}
		form, e := value.Text(v)
		if e != api.OK {
			t.Fatalf("Parse(%q) = %v, which is not valid", s, v)
		}
		if sortedBytes(form) != sortedBytes(dense(s)) || strings.IndexByte(s, '{') < 0 && form != dense(s) {
			t.Fatalf("Text of Parse(%q) = %q", s, form)
		}
		if again, e := value.Parse(form); !same(again, v) || e != api.OK {
			t.Fatalf("Parse(%q) = %v, %d; not %v", form, again, e, v)
		}
	})
}
