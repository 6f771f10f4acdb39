package expr_test

import (
	"math/big"
	"regexp"
	"slices"
	"strconv"
	"strings"
	"testing"

	"cirrus/api"
	"cirrus/expr"
)

// quoted returns the textual form of a const of the text s.
func quoted(s string) string { return "'" + shown(text(s)) }

// cases returns what expressions over the row of TestEval yield.
func cases() map[string]string {
	return map[string]string{
		"a": `7`, "b": `{"x":null,"y":[5,{"z":true}]}`, "c": `"aBc"`, "d": `null`, "'null": `null`, "'[1,{\"k\":2}]": `[1,{"k":2}]`,

		"(get $ a)": `7`, "(get $.y b)": `[5,{"z":true}]`, "(get $.y[1].z b)": `true`, "(get $.x b)": `null`, "(get $.w b)": `null`, "(get $[0] b)": `null`, "(get $.x a)": `null`, "(get $.x d)": `null`,
		"(has $ d)": `true`, "(has $.x b)": `true`, "(has $.y[1] b)": `true`, "(has $.y[2] b)": `false`, "(has $.w b)": `false`, "(has $.x.x b)": `false`, "(has $[0] a)": `false`,

		"(add a '-9)": `-2`, "(sub a '9)": `-2`, "(mul a '-9)": `-63`, "(neg a)": `-7`, "(neg '-7)": `7`, "(neg '0)": `0`, "(neg '-1000000000000)": `1000000000000`,
		"(add '999999999999 '1)": `1000000000000`, "(add '1000000000000 '1)": `null`, "(add '-1000000000000 '-1)": `null`, "(sub '-999999999999 '1)": `-1000000000000`, "(sub '-1000000000000 '1)": `null`, "(sub '1 '-1000000000000)": `null`,
		"(mul '1000000 '1000000)": `1000000000000`, "(mul '-1000000 '1000000)": `-1000000000000`, "(mul '1000001 '1000000)": `null`, "(mul '1000001 '-1000000)": `null`, "(mul '0 '1000000000000)": `0`, "(mul '1000000000000 '0)": `0`, "(mul '1000000000000 '-1)": `-1000000000000`,
		"(mul '4294967296 '4294967296)": `null`, "(mul '8589934592 '2147483648)": `null`, "(mul '-1000000000000 '1000000000000)": `null`, "(mul '30752 '600000000000)": `null`,
		"(div a '2)": `3`, "(div a '-2)": `-3`, "(div '-7 '2)": `-3`, "(div '-7 '-2)": `3`, "(div '1 '2)": `0`, "(div '-1 '2)": `0`, "(div a '0)": `null`, "(div '0 '0)": `null`, "(div '0 a)": `0`, "(div '1000000000000 '-1)": `-1000000000000`,
		"(mod a '2)": `1`, "(mod a '-2)": `1`, "(mod '-7 '2)": `-1`, "(mod '-7 '-2)": `-1`, "(mod '-8 '2)": `0`, "(mod a '0)": `null`, "(mod '3 a)": `3`,
		"(add a d)": `null`, "(add d a)": `null`, "(add a '\"1\")": `null`, "(add 'true a)": `null`, "(sub a c)": `null`, "(mul '0 c)": `null`, "(mul 'null '0)": `null`, "(div b a)": `null`, "(mod a 'true)": `null`, "(neg c)": `null`, "(neg 'true)": `null`, "(neg d)": `null`,

		"(cat c c)": `"aBcaBc"`, "(cat '\"\" c)": `"aBc"`, "(cat c '\"\")": `"aBc"`, "(cat '\"\" '\"\")": `""`, "(cat c a)": `null`, "(cat a c)": `null`, "(cat c d)": `null`, "(cat b b)": `null`,
		"(len c)": `3`, "(len '\"\")": `0`, "(len '[])": `0`, "(len '[[1,2],3])": `2`, "(len b)": `2`, "(len '{})": `0`, "(len a)": `null`, "(len d)": `null`, "(len 'true)": `null`,
		"(lower c)": `"abc"`, "(lower '\"AZ az09_[@`{\")": "\"az az09_[@`{\"", "(lower '\"\")": `""`, "(lower a)": `null`, "(lower d)": `null`, "(lower '[\"A\"])": `null`,
		"(slice c '0 '3)": `"aBc"`, "(slice c '0 '2)": `"aB"`, "(slice c '1 '1)": `"B"`, "(slice c '1 '9)": `"Bc"`, "(slice c '2 '0)": `""`, "(slice c '3 '1)": `""`, "(slice c '4 '1)": `""`, "(slice c '1000000000000 '1000000000000)": `""`, "(slice c '1 '1000000000000)": `"Bc"`, "(slice '\"\" '0 '0)": `""`,
		"(slice c '-1 '3)": `null`, "(slice c '0 '-1)": `null`, "(slice c '9 '-1)": `null`, "(slice c '-1000000000000 '0)": `null`, "(slice c d '1)": `null`, "(slice c '1 d)": `null`, "(slice a '0 '1)": `null`, "(slice d '0 '1)": `null`, "(slice '[1,2] '0 '1)": `null`, "(slice c 'true '1)": `null`, "(slice c '0 'true)": `null`, "(slice c '\"0\" '1)": `null`,

		"(if 'true a b)": `7`, "(if 'false a c)": `"aBc"`, "(if d a c)": `"aBc"`, "(if '1 a c)": `"aBc"`, "(if '\"true\" a c)": `"aBc"`, "(if 'true d c)": `null`, "(if 'false c d)": `null`,
		"(first d)": `null`, "(first a)": `7`, "(first d 'null c a)": `"aBc"`, "(first d 'false a)": `false`, "(first d '\"\" a)": `""`, "(first 'null 'null 'null)": `null`,

		"(list)": `[]`, "(list d)": `[null]`, "(list a d c a)": `[7,null,"aBc",7]`, "(list (list) (list (list)))": `[[],[[]]]`,
		"(put $ a c)": `"aBc"`, "(put $.w b a)": `{"w":7,"x":null,"y":[5,{"z":true}]}`, "(put $.y[2] b a)": `{"x":null,"y":[5,{"z":true},7]}`, "(put $.y[1].z b d)": `{"x":null,"y":[5,{"z":null}]}`, "(put $.x.v b a)": `{"x":{"v":7},"y":[5,{"z":true}]}`, "(put $[0].k d a)": `[{"k":7}]`,
		"(put $.y[3] b a)": `null`, "(put $.a a c)": `null`, "(put $[0] b a)": `null`, "(put $.a.a.a.a.a.a d a)": `null`,

		"(kind d)": `"null"`, "(kind 'false)": `"truth"`, "(kind a)": `"int"`, "(kind c)": `"text"`, "(kind '[])": `"list"`, "(kind b)": `"object"`,

		"(cast truth 'true)": `true`, "(cast truth 'false)": `false`, "(cast truth '0)": `false`, "(cast truth a)": `true`, "(cast truth '-1)": `true`, "(cast truth '\"true\")": `true`, "(cast truth '\"false\")": `false`,
		"(cast truth '\"1\")": `null`, "(cast truth '\"True\")": `null`, "(cast truth '\" true\")": `null`, "(cast truth '\"\")": `null`, "(cast truth '\"null\")": `null`, "(cast truth d)": `null`, "(cast truth '[])": `null`, "(cast truth '[true])": `null`, "(cast truth b)": `null`,
		"(cast int a)": `7`, "(cast int 'true)": `1`, "(cast int 'false)": `0`, "(cast int '\"12\")": `12`, "(cast int '\"-12\")": `-12`, "(cast int '\"0\")": `0`, "(cast int '\"1000000000000\")": `1000000000000`, "(cast int '\"-1000000000000\")": `-1000000000000`,
		"(cast int '\"012\")": `null`, "(cast int '\"-0\")": `null`, "(cast int '\"+1\")": `null`, "(cast int '\" 1\")": `null`, "(cast int '\"1 \")": `null`, "(cast int '\"1000000000001\")": `null`, "(cast int '\"1.0\")": `null`, "(cast int '\"1e3\")": `null`, "(cast int '\"0x1\")": `null`,
		"(cast int '\"\")": `null`, "(cast int '\"-\")": `null`, "(cast int '\"true\")": `null`, "(cast int '\"null\")": `null`, "(cast int '\"[1]\")": `null`, "(cast int '\"\\\"1\\\"\")": `null`, "(cast int d)": `null`, "(cast int '[1])": `null`, "(cast int b)": `null`, "(cast int c)": `null`,
		"(cast text c)": `"aBc"`, "(cast text '\"\")": `""`, "(cast text a)": `"7"`, "(cast text '-7)": `"-7"`, "(cast text 'true)": `"true"`, "(cast text 'false)": `"false"`, "(cast text '[1,\"a\"])": `"[1,\"a\"]"`, "(cast text '{})": `"{}"`, "(cast text b)": `"{\"x\":null,\"y\":[5,{\"z\":true}]}"`, "(cast text d)": `null`,
	}
}

func TestEval(t *testing.T) {
	vals := []api.Value{number(7), val(t, `{"x":null,"y":[5,{"z":true}]}`), text("aBc"), {}}
	for s, want := range cases() {
		v, e := expr.Eval(columns(), vals, parsed(t, s))
		if shown(v) != want || e != api.OK {
			t.Errorf("%s = %s, %d; not %s", s, shown(v), e, want)
		}
		holds, e := expr.Holds(columns(), vals, parsed(t, s))
		if holds != (want == "true") || e != api.OK {
			t.Errorf("Holds of %s = %t, %d", s, holds, e)
		}
	}
}

// A missing column is an error, also where its value would not matter.
func TestEvalErrors(t *testing.T) {
	vals := make([]api.Value, 4)
	for _, s := range []string{"e", "(if 'true a e)", "(first 'true e)", "(and 'false e)", "(or 'true e)", "(list (list (list e)))", "(in a a e)"} {
		if v, e := expr.Eval(columns(), vals, parsed(t, s)); shown(v) != "null" || e != api.ErrName {
			t.Errorf("Eval(%s) = %s, %d", s, shown(v), e)
		}
		if ok, e := expr.Holds(columns(), vals, parsed(t, s)); ok || e != api.ErrName {
			t.Errorf("Holds(%s) = %t, %d", s, ok, e)
		}
	}
}

// The columns' order and number decide which value is whose.
func TestEvalOfOtherRows(t *testing.T) {
	cols := []api.Column{{Name: "z", Type: api.TText}, {Name: "a", Type: api.TVariant}, {Name: "aa", Type: api.TInt}}
	vals := []api.Value{text("z"), text("a"), number(5)}
	if v, e := expr.Eval(cols, vals, parsed(t, "(list aa a z aa)")); shown(v) != `[5,"a","z",5]` || e != api.OK {
		t.Errorf("Eval = %s, %d", shown(v), e)
	}
	if v, e := expr.Eval(cols[2:], vals[2:], parsed(t, "aa")); shown(v) != `5` || e != api.OK {
		t.Errorf("Eval = %s, %d", shown(v), e)
	}
}

// The results of and, or and not for each truth, with what is no truth in the place of null.
func TestLogic(t *testing.T) {
	name := map[string]string{"1": "true", "0": "false", "n": "null"}
	table := map[string][]string{ // for each pair: and, or
		"11": {"1", "1"}, "10": {"0", "1"}, "1n": {"n", "1"},
		"01": {"0", "1"}, "00": {"0", "0"}, "0n": {"0", "n"},
		"n1": {"n", "1"}, "n0": {"0", "n"}, "nn": {"n", "n"},
	}
	not := map[string]string{"1": "0", "0": "1", "n": "n"}
	written := map[string][]string{"1": {"'true"}, "0": {"'false"}, "n": {"'null", "'0", "'1", `'"true"`, `'[true]`, "'{}"}}
	for pair, want := range table {
		for _, a := range written[pair[:1]] {
			if got := evaluated(t, make([]api.Value, 4), parsed(t, "(not "+a+")")); got != name[not[pair[:1]]] {
				t.Errorf("(not %s) = %s", a, got)
			}
			for _, b := range written[pair[1:]] {
				for i, op := range []string{"and", "or"} {
					s := "(" + op + " " + a + " " + b + ")"
					if got := evaluated(t, make([]api.Value, 4), parsed(t, s)); got != name[want[i]] {
						t.Errorf("%s = %s", s, got)
					}
				}
			}
		}
	}
}

// The results of all comparisons of two values, in the order eq ne lt le gt ge same; - is null.
func TestComparisons(t *testing.T) {
	ops := []string{"eq", "ne", "lt", "le", "gt", "ge", "same"}
	for pair, want := range map[string]string{
		`'1 '1`: "1001011", `'1 '2`: "0111000", `'2 '1`: "0100110", `'10 '9`: "0100110", `'-1 '0`: "0111000",
		`'false 'true`: "0111000", `'true 'false`: "0100110", `'true 'true`: "1001011",
		`'"a" '"a"`: "1001011", `'"a" '"b"`: "0111000", `'"10" '"9"`: "0111000", `'"a" '"aa"`: "0111000", `'"b" '"aa"`: "0100110", `'"" '"a"`: "0111000", `'"B" '"a"`: "0111000",
		`'1 '"1"`: "01----0", `'true '1`: "01----0", `'"a" '1`: "01----0", `'false '[]`: "01----0",
		`'[] '[]`: "10----1", `'[1] '[2]`: "01----0", `'[1] '[1,null]`: "01----0", `'{"a":[1]} '{"a":[1]}`: "10----1", `'{} '{"a":1}`: "01----0", `'[null] '[null]`: "10----1", `'{} '[]`: "01----0",
		`'null 'null`: "------1", `'null '1`: "------0", `'1 'null`: "------0", `'[] 'null`: "------0", `'null 'false`: "------0", `'null '""`: "------0",
	} {
		for i, op := range ops {
			s := "(" + op + " " + pair + ")"
			name := map[byte]string{'1': "true", '0': "false", '-': "null"}[want[i]]
			if got := evaluated(t, make([]api.Value, 4), parsed(t, s)); got != name {
				t.Errorf("%s = %s", s, got)
			}
		}
	}
	for s, want := range map[string]string{"'null": "true", "'false": "false", "'0": "false", "'\"\"": "false", "'[]": "false", "'{}": "false", "(div '1 '0)": "true"} {
		if got := evaluated(t, make([]api.Value, 4), parsed(t, "(null "+s+")")); got != want {
			t.Errorf("(null %s) = %s", s, got)
		}
	}
}

func TestIn(t *testing.T) {
	for s, want := range map[string]string{
		"'1 '1": "true", "'1 '2": "false", "'1 'null": "null", "'null '1": "null", "'null 'null": "null",
		"'1 '2 '3 '1": "true", "'1 '2 '3": "false", "'1 '2 'null '1": "true", "'1 'null '1": "true", "'1 '1 'null": "true", "'1 '2 'null": "null", "'1 'null '2": "null", "'null '1 '2": "null",
		`'1 '"1" 'true '[1]`: "false", `'[1] '1 '[1]`: "true", "'false 'false": "true", "'false 'true": "false", "'{} 'null '[] '{}": "true",
	} {
		if got := evaluated(t, make([]api.Value, 4), parsed(t, "(in "+s+")")); got != want {
			t.Errorf("(in %s) = %s", s, got)
		}
	}
}

// in is or of eq, one after another.
func TestInIsOrOfEq(t *testing.T) {
	d := dice(2)
	for range 2000 {
		l := []api.Expr{constant(d.value(api.TVariant))}
		for range 1 + d.roll(4) {
			l = append(l, constant(d.value(api.TVariant)))
		}
		want := op("eq", l[0], l[1])
		for _, x := range l[2:] {
			want = op("or", want, op("eq", l[0], x))
		}
		got, expected := evaluated(t, d.row(), op("in", l...)), evaluated(t, d.row(), want)
		if got != expected {
			t.Errorf("%s = %s, not %s", form(op("in", l...)), got, expected)
		}
	}
}

func TestLike(t *testing.T) {
	for _, c := range []struct {
		s, pattern string
		want       bool
	}{
		{"", "", true}, {"", "%", true}, {"", "%%%", true}, {"", "_", false}, {"a", "", false}, {"a", "_", true}, {"a", "%", true}, {"a", "_%", true}, {"a", "%_", true}, {"a", "__", false}, {"a", "_%_", false},
		{"abc", "abc", true}, {"abc", "ab", false}, {"abc", "abcd", false}, {"abc", "ABC", false}, {"abc", "a%", true}, {"abc", "%c", true}, {"abc", "%b", false}, {"abc", "b%", false}, {"abc", "a%c", true}, {"abc", "a_c", true}, {"abc", "a__", true}, {"abc", "a_", false}, {"abc", "%%c", true}, {"abc", "%b%", true}, {"abc", "%d%", false}, {"abc", "a%b%c%", true}, {"abc", "a%b_%c", false},
		{"aab", "%ab", true}, {"abab", "%ab", true}, {"ababc", "%abc", true}, {"abcabd", "%ab_%d", true}, {"mississippi", "m%iss%ip%", true}, {"mississippi", "m%iss%ix%", false}, {"mississippi", "%s_i%p_", true},
		{"a%c", "a%c", true}, {"a%c", "a_c", true}, {"%", "%", true}, {"_", "_", true}, {"a", `\a`, false}, {"%", `\%`, false}, {`\x`, `\%`, true}, {"a.c", "a.c", true}, {"abc", "a.c", false}, {"a*c", "a*c", true}, {"aac", "a*c", false}, {" ", "_", true},
	} {
		s := "(like " + quoted(c.s) + " " + quoted(c.pattern) + ")"
		if got := evaluated(t, make([]api.Value, 4), parsed(t, s)); got != strconv.FormatBool(c.want) {
			t.Errorf("%s = %s", s, got)
		}
	}
	for _, s := range []string{`(like '1 '"%")`, `(like '"1" '1)`, `(like 'null '"%")`, `(like '"" 'null)`, `(like '[] '"%")`, `(like '"true" 'true)`} {
		if got := evaluated(t, make([]api.Value, 4), parsed(t, s)); got != "null" {
			t.Errorf("%s = %s", s, got)
		}
	}
}

func TestLikeOfMany(t *testing.T) {
	d := dice(3)
	made := func(letters string, n int) string {
		var b strings.Builder
		for range d.roll(n) {
			b.WriteByte(letters[d.roll(len(letters))])
		}
		return b.String()
	}
	matched := 0
	for range 5000 {
		s, pattern := made("aabbc%_.", 12), made("aab%%__.", 8)
		reg := strings.NewReplacer("%", ".*", "_", ".", ".", `\.`).Replace(pattern)
		want := regexp.MustCompile("^(?s:" + reg + ")$").MatchString(s)
		x := op("like", constant(text(s)), constant(text(pattern)))
		if got := evaluated(t, d.row(), x); got != strconv.FormatBool(want) {
			t.Fatalf("%s = %s", form(x), got)
		}
		if want {
			matched++
		}
	}
	if matched < 500 || matched > 4500 {
		t.Errorf("%d matched", matched)
	}
	// Many % and no match at the end: not a matter of all the ways to divide the text.
	long := strings.Repeat("a", api.MaxText)
	x := op("like", constant(text(long)), constant(text(strings.Repeat("%a", 49)+"%b")))
	if got := evaluated(t, d.row(), x); got != "false" {
		t.Errorf("%s = %s", form(x), got)
	}
}

// The ints are those of all sizes, computed without a limit.
func TestArithmetic(t *testing.T) {
	d := dice(4)
	number := func() int64 {
		n := int64(d.roll(1 << 30))
		for d.roll(3) > 0 && n < api.MaxInt/1000 {
			n = n*int64(1+d.roll(1000)) + int64(d.roll(3))
		}
		n = min(n, api.MaxInt) >> d.roll(40)
		if d.roll(2) == 0 {
			return -n
		}
		return n
	}
	nulls := 0
	for range 20000 {
		a, b := number(), number()
		for name, f := range map[string]func(z, x, y *big.Int) *big.Int{
			"add": (*big.Int).Add, "sub": (*big.Int).Sub, "mul": (*big.Int).Mul, "div": (*big.Int).Quo, "mod": (*big.Int).Rem,
		} {
			want := "null"
			if b != 0 || name != "div" && name != "mod" {
				n := f(new(big.Int), big.NewInt(a), big.NewInt(b))
				if n.CmpAbs(big.NewInt(api.MaxInt)) <= 0 {
					want = n.String()
				}
			}
			if want == "null" {
				nulls++
			}
			x := op(name, constant(api.Value{Kind: api.KInt, Int: int(a)}), constant(api.Value{Kind: api.KInt, Int: int(b)}))
			if got := evaluated(t, make([]api.Value, 4), x); got != want {
				t.Fatalf("%s = %s, not %s", form(x), got, want)
			}
		}
	}
	if nulls < 1000 || nulls > 30000 {
		t.Errorf("%d of 100000 are null", nulls)
	}
}

// nulls returns the text of a list of so many nulls and, behind them, these items.
func nulls(n int, items ...string) string {
	return "[" + strings.Join(append(slices.Repeat([]string{"null"}, n), items...), ",") + "]"
}

// What would be too long, too deep or too large is null.
func TestEvalLimits(t *testing.T) {
	long, half, most := strings.Repeat("a", 100), strings.Repeat("b", 50), strings.Repeat("c", 96)
	for _, c := range []struct{ x, want string }{
		{"(cat " + quoted(half) + " " + quoted(half) + ")", shown(text(half + half))},
		{"(cat " + quoted(half) + " " + quoted(half+"b") + ")", "null"},
		{"(cat " + quoted(long) + " '\"\")", shown(text(long))},
		{"(cat " + quoted(long) + " '\"b\")", "null"},
		{"(slice " + quoted(long) + " '0 '100)", shown(text(long))},
		{"(slice " + quoted(long) + " '99 '100)", `"a"`},
		{"(slice " + quoted(long) + " '100 '1)", `""`},
		{"(len " + quoted(long) + ")", "100"},
		{"(cast text '[" + shown(text(most)) + "])", shown(text("[" + shown(text(most)) + "]"))},
		{"(cast text '[" + shown(text(most+"c")) + "])", "null"},
		{"(cast text '" + nulls(19) + ")", shown(text(nulls(19)))},
		{"(cast text '" + nulls(20) + ")", "null"},
		{"(cast text '[[[[[[]]]]]])", `"[[[[[[]]]]]]"`},
		{"(list '[[[[[]]]]])", "[[[[[[]]]]]]"},
		{"(list '[[[[[[]]]]]])", "null"},
		{"(list (list (list (list (list (list))))))", "[[[[[[]]]]]]"},
		{"(list (list (list (list (list (list (list)))))))", "null"},
		{"(list (list (list (list (list (list (list a)))))))", "[null]"},
		{"(list '" + nulls(29) + " '" + nulls(28) + ")", "[" + nulls(29) + "," + nulls(28) + "]"},
		{"(list '" + nulls(29) + " '" + nulls(29) + ")", "null"},
		{"(put $[29] '" + nulls(29) + " '" + nulls(29) + ")", nulls(29, nulls(29))},
		{"(put $[29] '" + nulls(29) + " '" + nulls(30) + ")", "null"},
		{"(put $.a.a.a.a.a d a)", `{"a":{"a":{"a":{"a":{"a":null}}}}}`},
		{"(put $.a.a.a.a.a.a d a)", "null"},
	} {
		if got := evaluated(t, make([]api.Value, 4), parsed(t, c.x)); got != c.want {
			t.Errorf("%s = %s, not %s", c.x, got, c.want)
		}
	}
}

// R5: arguments are left alone, and results share no memory with them, with one another, or in themselves.
func TestEvalMakesNewMemory(t *testing.T) {
	const inner = `{"x":[1,{"y":[2]}],"z":{}}`
	for _, s := range []string{
		"b", "(get $ b)", "(get $.x b)", "(list b b)", "(put $.w b b)", "(put $ a b)", "(if 'true b a)", "(if a a b)", "(first 'null b a)", "(list (list b) b)",
		"'" + inner, "(get $.x '" + inner + ")", "(list '" + inner + " b)", "(first '" + inner + ")", "(put $.x '" + inner + " '" + inner + ")",
	} {
		vals := []api.Value{number(7), val(t, inner), text("c"), {}}
		x := parsed(t, s)
		got, e := expr.Eval(columns(), vals, x)
		if e != api.OK {
			t.Fatalf("Eval(%s): %d", s, e)
		}
		want := shown(got)
		for i := range got.Items {
			before := shownRest(got, i)
			scribble(got.Items[i])
			if shownRest(got, i) != before {
				t.Errorf("%s: the items of the result share memory", s)
			}
		}
		scribble(got)
		if shown(vals[1]) != inner || form(x) != s {
			t.Fatalf("%s: the result has memory of the arguments", s)
		}
		got, _ = expr.Eval(columns(), vals, x)
		other, _ := expr.Eval(columns(), vals, x)
		scribble(vals[1])
		scribbleExpr(x)
		if scribble(other); shown(got) != want {
			t.Errorf("%s: the result has memory of the arguments or of another result", s)
		}
	}
}

// shownRest returns the text of the items of v but for the item i.
func shownRest(v api.Value, i int) string {
	rest := api.Value{Kind: api.KList}
	rest.Items = append(rest.Items, v.Items[:i]...)
	rest.Items = append(rest.Items, v.Items[i+1:]...)
	return shown(rest)
}
