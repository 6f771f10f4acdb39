package zone_test

import (
	"testing"

	"cirrus/api"
	"cirrus/zone"
)

// mixed returns a head with a column of each sort: a and n are from 2 to 5 without and with nulls, z is null, c is 7.
func mixed(t testing.TB) api.Head {
	return headOf(t, `a:int 0 [2,5]`, `n:int 1 [2,5]`, `z:int 3`, `c:int 0 [7,7]`, `s:text 0 ["b","d"]`, `t:truth 0 [false,true]`, `u:truth 1 [true,true]`,
		`v:variant 0 [2,{"x":1}]`, `$.k 3`, `$.l 0 [1,4]`, `$.l.m 2 [true,true]`)
}

// spans returns what expressions can be for the head mixed.
func spans() map[string]string {
	return map[string]string{
		"a": `2..5`, "n": `null 2..5`, "z": `null`, "c": `7..7`, "s": `"b".."d"`, "t": `false..true`, "u": `null true..true`, "v": `2..{"x":1}`,
		"(get $.k v)": `null`, "(get $.l v)": `1..4`, "(get $.l.m v)": `null true..true`, "(get $.m v)": `null ?`, "(get $.l.n v)": `null ?`, "(get $ v)": `null ?`, "(get $[0] v)": `null ?`, "(get $.l.m.n v)": `null ?`,
		"(get $.l a)": `null ?`, "(get $.l c)": `null`, "(get $.l z)": `null`, "(get $ c)": `7..7`, "(get $.m (get $.l v))": `null ?`, "(get $.l '{\"l\":9})": `9..9`, "(get $.l (first v))": `null ?`,

		"'5": `5..5`, "'null": `null`, "'[1,{\"k\":2}]": `[1,{"k":2}]..[1,{"k":2}]`, "(list)": `[]..[]`,
		"(mul c c)": `49..49`, "(div c '0)": `null`, "(mod c '4)": `3..3`, "(cat '\"a\" '\"b\")": `"ab".."ab"`, "(list c z)": `[7,null]..[7,null]`, "(put $.a z c)": `{"a":7}..{"a":7}`, "(kind z)": `"null".."null"`,
		"(len '\"abc\")": `3..3`, "(lower '\"AB\")": `"ab".."ab"`, "(slice '\"abc\" '1 '1)": `"b".."b"`, "(cast text c)": `"7".."7"`, "(cast int '\"x\")": `null`, "(has $.k '{\"k\":1})": `true..true`, "(has $.k c)": `false..false`, "(like '\"abc\" '\"a%\")": `true..true`, "(like c '\"a%\")": `null`,
		"(lt c '\"x\")": `null`, "(lt c '8)": `true..true`, "(lt z c)": `null`, "(eq c '\"x\")": `false..false`, "(same z z)": `true..true`, "(same z c)": `false..false`, "(null z)": `true..true`, "(null c)": `false..false`, "(in c '1 z '7)": `true..true`, "(in c '1 z)": `null`,
		"(add c '1)": `8..8`, "(sub c '1)": `6..6`, "(neg c)": `-7..-7`, "(neg z)": `null`, "(add c '\"1\")": `null`, "(neg '\"1\")": `null`, "(if 'true c z)": `7..7`, "(if z c z)": `null`, "(first z c)": `7..7`, "(first z z)": `null`, "(mul (add c '1) (neg c))": `-56..-56`,

		"(mul a a)": `null ?`, "(mul z a)": `null ?`, "(mul c a)": `null ?`, "(div a c)": `null ?`, "(mod a c)": `null ?`, "(cat s s)": `null ?`, "(len s)": `null ?`, "(lower s)": `null ?`, "(slice s '0 '1)": `null ?`, "(list a)": `null ?`, "(put $.k v a)": `null ?`, "(kind a)": `null ?`, "(cast int a)": `null ?`,

		"(add a '1)": `3..6`, "(add a a)": `4..10`, "(add a n)": `null 4..10`, "(add n a)": `null 4..10`, "(add n n)": `null 4..10`, "(add a z)": `null`, "(add z a)": `null`, "(add s z)": `null`, "(add z s)": `null`, "(add (mul a a) z)": `null`, "(add (get $.l v) (get $.l v))": `2..8`,
		"(add s a)": `null ?`, "(add a s)": `null ?`, "(add v a)": `null ?`, "(add a v)": `null ?`, "(add t a)": `null ?`, "(add (mul a a) a)": `null ?`, "(add a '\"1\")": `null ?`, "(add (if t 'false '7) a)": `null ?`, "(add (if t 'true '7) a)": `null ?`,
		"(sub a '5)": `-3..0`, "(sub '5 a)": `0..3`, "(sub a a)": `-3..3`, "(sub n a)": `null -3..3`, "(sub a (neg a))": `4..10`, "(sub z a)": `null`, "(sub a z)": `null`, "(sub s a)": `null ?`,
		"(neg a)": `-5..-2`, "(neg n)": `null -5..-2`, "(neg (neg a))": `2..5`, "(neg s)": `null ?`, "(neg (mul a a))": `null ?`,

		"(if t a '9)": `2..9`, "(if t '9 a)": `2..9`, "(if t a n)": `null 2..5`, "(if t a z)": `null 2..5`, "(if t z a)": `null 2..5`, "(if t n '9)": `null 2..9`, "(if t '3 a)": `2..5`, "(if t a '3)": `2..5`, "(if t '0 a)": `0..5`, "(if u a '9)": `2..9`, "(if (not u) a '9)": `9..9`, "(if t a s)": `2.."d"`, "(if t s a)": `2.."d"`,
		"(if z a c)": `7..7`, "(if 'true a s)": `2..5`, "(if 'false a s)": `"b".."d"`, "(if 'null a s)": `"b".."d"`, "(if '5 a s)": `"b".."d"`, "(if s a c)": `7..7`, "(if a s c)": `7..7`, "(if (gt a '9) s a)": `2..5`, "(if (lt a '9) s a)": `"b".."d"`, "(if (lt n '9) s a)": `2.."d"`, "(if (mul a a) a '9)": `2..9`,
		"(if t a (mul a a))": `null ?`, "(if t (mul a a) a)": `null ?`, "(if t (mul a a) z)": `null ?`, "(if t z (mul a a))": `null ?`, "(if t z z)": `null`, "(if t c '7)": `7..7`, "(mul (if t c '7) '2)": `14..14`, "(if t c z)": `null 7..7`, "(mul (if t c z) '2)": `null ?`, "(if v a '9)": `9..9`,
		"(first n a)": `2..5`, "(first n '9)": `2..9`, "(first n z '9)": `2..9`, "(first n z)": `null 2..5`, "(first z n '9 s)": `2..9`, "(first a s)": `2..5`, "(first n s a)": `2.."d"`, "(first z a)": `2..5`, "(first n n)": `null 2..5`, "(first n)": `null 2..5`, "(first a)": `2..5`,
		"(first (mul a a) '1)": `?`, "(first n (mul a a))": `null ?`, "(first z (mul a a) a)": `?`, "(first z (mul a a))": `null ?`, "(first (mul a a))": `null ?`, "(first (first (mul a a) '1) s)": `?`, "(if t (first (mul a a) '1) a)": `?`, "(first n '3)": `2..5`, "(first (if t c z) '7)": `7..7`,

		"(not t)": `false..true`, "(lt a '9)": `true..true`, "(gt n '9)": `null false..false`, "(lt n '9)": `null true..true`, "(eq a '3)": `false..true`, "(eq n '3)": `null false..true`, "(has $.k v)": `false..true`, "(like s s)": `null false..true`, "(and z t)": `null false..false`, "(or z t)": `null true..true`, "(and z n)": `null`, "(null n)": `false..true`, "(null a)": `false..false`,
		"(in a '3 '9)": `false..true`, "(in n '9)": `null false..false`, "(same n z)": `false..true`, "(same a '9)": `false..false`, "(eq (lt a '9) 'true)": `true..true`, "(lt a s)": `null false..true`, "(ne a '9)": `true..true`, "(le a '5)": `true..true`, "(ge a '6)": `false..false`,
	}
}

func TestOf(t *testing.T) {
	h := mixed(t)
	for s, want := range spans() {
		if got := shownSpan(spanOf(t, h, parsed(t, s))); got != want {
			t.Errorf("%s = %s, not %s", s, got, want)
		}
	}
}

// Sums are limited, and what is beyond the limits is null.
func TestOfAtTheLimits(t *testing.T) {
	h := headOf(t, "a:int 0 [1,1000000000000]", "b:int 0 [1,999999999999]", "c:int 0 [999999999999,1000000000000]", "d:int 0 [-1000000000000,-1]", "e:int 1 [-1000000000000,1000000000000]")
	for s, want := range map[string]string{
		"(add a '1)": `null 2..1000000000000`, "(add b '1)": `2..1000000000000`, "(add b '2)": `null 3..1000000000000`, "(add a a)": `null 2..1000000000000`, "(sub a '-1)": `null 2..1000000000000`, "(add a d)": `-999999999999..999999999999`,
		"(add c '1)": `null 1000000000000..1000000000000`, "(add c '2)": `null`, "(add c c)": `null`, "(sub c d)": `null 1000000000000..1000000000000`, "(sub d c)": `null -1000000000000..-1000000000000`, "(sub (neg c) c)": `null`, "(sub c c)": `-1..1`,
		"(sub d '1)": `null -1000000000000..-2`, "(add d '-1)": `null -1000000000000..-2`, "(sub d '0)": `-1000000000000..-1`, "(neg a)": `-1000000000000..-1`, "(neg e)": `null -1000000000000..1000000000000`, "(add e e)": `null -1000000000000..1000000000000`,
		"(sub '-1000000000000 a)": `null`, "(sub '-999999999999 a)": `null -1000000000000..-1000000000000`, "(add (add c '2) '1)": `null`, "(add (add c '1) '1)": `null`, "(add (add c '1) '0)": `null 1000000000000..1000000000000`,
	} {
		if got := shownSpan(spanOf(t, h, parsed(t, s))); got != want {
			t.Errorf("%s = %s, not %s", s, got, want)
		}
	}
}

// Paths belong to their column, and their statistics come before the value that the column's own would yield.
func TestOfPaths(t *testing.T) {
	h := headOf(t, `a:variant 0 [{"k":1},{"k":1}]`, `$.l 0 [1,2]`, `b:variant 0 [{"k":1},{"k":1}]`, `$.k 0 [1,9]`, `$.k.l 3`, `c:variant 3`, `$.k 1 [false,true]`)
	for s, want := range map[string]string{
		"(get $.k a)": `1..1`, "(get $.l a)": `1..2`, "(get $.k b)": `1..9`, "(get $.l b)": `null`, "(get $.k.l b)": `null`, "(get $.k c)": `null false..true`, "(get $.l c)": `null`, "(get $.k.l c)": `null`, "(has $.k b)": `true..true`,
		"(get $.k (first b))": `1..1`, "(get $.k (if 'true b a))": `1..1`, "(get $ b)": `{"k":1}..{"k":1}`, "(get $.k[0] b)": `null`,
	} {
		if got := shownSpan(spanOf(t, h, parsed(t, s))); got != want {
			t.Errorf("%s = %s, not %s", s, got, want)
		}
	}
}

// Where each column is one value, so is every expression.
func TestOfSingles(t *testing.T) {
	h := headOf(t, "a:int 0 [2,2]", "b:text 0 [\"x\",\"x\"]", "c:variant 0 [[1],[1]]", "d:truth 3")
	for s, want := range map[string]string{
		"(mul a a)": `4..4`, "(cat b b)": `"xx".."xx"`, "(put $[1] c a)": `[1,2]..[1,2]`, "(list a b c d)": `[2,"x",[1],null]..[2,"x",[1],null]`, "(if d a b)": `"x".."x"`, "(lt a b)": `null`, "(like b '\"_\")": `true..true`, "(has $[1] c)": `false..false`,
	} {
		if got := shownSpan(spanOf(t, h, parsed(t, s))); got != want {
			t.Errorf("%s = %s, not %s", s, got, want)
		}
	}
}

// The bounds share no memory with the head, with the expression, or with one another; the arguments stay as they are.
func TestOfMemory(t *testing.T) {
	h := headOf(t, `a:variant 0 [[1,{"k":[2]}],{"k":[1]}]`, `$.k 0 [[1],[1]]`, `b:variant 1 [[[3]],[[3]]]`, `c:variant 0 [[[3]],[[3]]]`)
	was := shownHead(h)
	for _, s := range []string{"a", "b", "c", "(get $.k a)", "'[[1],{\"k\":[]}]", "(list c)", "(put $.k c '[[4]])", "(if (lt a a) a '[[[9]]])", "(first b '[[3]])", "(first b c)", "(if 'true '[[]] a)", "(if (lt a a) c c)"} {
		x := parsed(t, s)
		got, e := zone.Of(h, x)
		if e != api.OK {
			t.Errorf("Of(%s): %d", s, e)
		}
		m := memory{}
		m.head(h)
		m.expr(x)
		if !m.value(got.Min) || !m.value(got.Max) {
			t.Errorf("Of(%s) shares memory", s)
		}
		if shownHead(h) != was || exprForm(x) != s {
			t.Errorf("Of(%s) changes %s, %s", s, shownHead(h), exprForm(x))
		}
	}
}
