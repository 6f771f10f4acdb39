package chunk_test

import (
	"strings"
	"testing"

	"cirrus/api"
	"cirrus/chunk"
)

// sheet is values and their bytes in the four encodings; "-" where one is not applicable.
type sheet struct {
	values string
	bytes  [4]string
}

func sheets() []sheet {
	long := strings.Repeat("x", 100)
	nulls := "[" + strings.Repeat("null,", 57) + "null]"
	return []sheet{
		{"[]", [4]string{"\x00", "\x00", "\x00\x00", "\x00"}},
		{"[5,5]", [4]string{"\x02\x02\x0a\x02\x0a", "\x01\x02\x02\x0a", "\x01\x02\x0a\x02\x00\x00", "\x02\x0a\x00"}},
		{"[null,null,null]", [4]string{"\x03\x00\x00\x00", "\x01\x03\x00", "\x01\x00\x03\x00\x00\x00", "-"}},
		{"[7]", [4]string{"\x01\x02\x0e", "\x01\x01\x02\x0e", "\x01\x02\x0e\x01\x00", "\x01\x0e"}},
		{"[0]", [4]string{"\x01\x02\x00", "\x01\x01\x02\x00", "\x01\x02\x00\x01\x00", "\x01\x00"}},
		{"[-1,1]", [4]string{"\x02\x02\x01\x02\x02", "\x02\x01\x02\x01\x01\x02\x02", "\x02\x02\x01\x02\x02\x02\x00\x01", "\x02\x01\x04"}},
		{"[1,-1]", [4]string{"\x02\x02\x02\x02\x01", "\x02\x01\x02\x02\x01\x02\x01", "\x02\x02\x01\x02\x02\x02\x01\x00", "\x02\x02\x03"}},
		{"[63,64,-64,-65]", [4]string{
			"\x04\x02\x7e\x02\x80\x01\x02\x7f\x02\x81\x01",
			"\x04\x01\x02\x7e\x01\x02\x80\x01\x01\x02\x7f\x01\x02\x81\x01",
			"\x04\x02\x81\x01\x02\x7f\x02\x7e\x02\x80\x01\x04\x02\x03\x01\x00",
			"\x04\x7e\x02\xff\x01\x01"}},
		{"[1000000000000,-1000000000000]", [4]string{
			"\x02\x02\x80\xc0\xa8\xca\x9a\x3a\x02\xff\xbf\xa8\xca\x9a\x3a",
			"\x02\x01\x02\x80\xc0\xa8\xca\x9a\x3a\x01\x02\xff\xbf\xa8\xca\x9a\x3a",
			"\x02\x02\xff\xbf\xa8\xca\x9a\x3a\x02\x80\xc0\xa8\xca\x9a\x3a\x02\x01\x00",
			"\x02\x80\xc0\xa8\xca\x9a\x3a\xff\xff\xd0\x94\xb5\x74"}},
		{"[false,true,true,false]", [4]string{
			"\x04\x01\x00\x01\x01\x01\x01\x01\x00", "\x03\x01\x01\x00\x02\x01\x01\x01\x01\x00", "\x02\x01\x00\x01\x01\x04\x00\x01\x01\x00", "-"}},
		{`["b","a","b",""]`, [4]string{
			"\x04\x03\x01b\x03\x01a\x03\x01b\x03\x00",
			"\x04\x01\x03\x01b\x01\x03\x01a\x01\x03\x01b\x01\x03\x00",
			"\x03\x03\x00\x03\x01a\x03\x01b\x04\x02\x01\x02\x00", "-"}},
		{`["` + long + `"]`, [4]string{"\x01\x03\x64" + long, "\x01\x01\x03\x64" + long, "\x01\x03\x64" + long + "\x01\x00", "-"}},
		{`[[],{},[[],3],{"":[null],"k":{"a":true}}]`, [4]string{
			"\x04\x04\x00\x05\x00\x04\x02\x04\x00\x02\x06\x05\x02\x00\x04\x01\x00\x01k\x05\x01\x01a\x01\x01",
			"\x04\x01\x04\x00\x01\x05\x00\x01\x04\x02\x04\x00\x02\x06\x01\x05\x02\x00\x04\x01\x00\x01k\x05\x01\x01a\x01\x01",
			"\x04\x04\x00\x04\x02\x04\x00\x02\x06\x05\x00\x05\x02\x00\x04\x01\x00\x01k\x05\x01\x01a\x01\x01\x04\x00\x02\x01\x03", "-"}},
		// Values of all kinds: the dictionary is in the order of values, not in the order of bytes or of places.
		{`[{},[],"",-2,1,true,null]`, [4]string{
			"\x07\x05\x00\x04\x00\x03\x00\x02\x03\x02\x02\x01\x01\x00",
			"\x07\x01\x05\x00\x01\x04\x00\x01\x03\x00\x01\x02\x03\x01\x02\x02\x01\x01\x01\x01\x00",
			"\x07\x00\x01\x01\x02\x03\x02\x02\x03\x00\x04\x00\x05\x00\x07\x06\x05\x04\x02\x03\x01\x00", "-"}},
		{"[" + nulls + "]", [4]string{
			"\x01\x04\x3a" + strings.Repeat("\x00", 58), "\x01\x01\x04\x3a" + strings.Repeat("\x00", 58), "\x01\x04\x3a" + strings.Repeat("\x00", 58) + "\x01\x00", "-"}},
		{"[1,null,1]", [4]string{"\x03\x02\x02\x00\x02\x02", "\x03\x01\x02\x02\x01\x00\x01\x02\x02", "\x02\x00\x02\x02\x03\x01\x00\x01", "-"}},
	}
}

func TestPack(t *testing.T) {
	for _, s := range sheets() {
		for i, want := range s.bytes {
			bad := api.OK
			if want == "-" {
				want, bad = "", api.ErrType
			}
			if got, e := chunk.Pack(values(t, s.values), i+1); got != want || e != bad {
				t.Errorf("Pack(%s, %d) = %q, %d; not %q, %d", s.values, i+1, got, e, want, bad)
			}
		}
	}
}

// Counts, lengths of runs and indices above 127 have two bytes.
func TestPackMany(t *testing.T) {
	var mixed []api.Value
	for i := range api.MaxRows {
		mixed = append(mixed, number(i%150))
	}
	nulls := make([]api.Value, 130)
	zeros := strings.Repeat("\x00", 130)
	for _, c := range []struct {
		l          []api.Value
		enc        int
		start, end string
		long       int
	}{
		{nulls, api.EPlain, "\x82\x01\x00", "\x00", 132},
		{nulls, api.ERuns, "\x01\x82\x01\x00", "\x00", 4},
		{nulls, api.EDict, "\x01\x00\x82\x01" + zeros, "\x00", 134},
		{mixed, api.EPlain, "\xc8\x01\x02\x00\x02\x02\x02\x04", "\x02\x60\x02\x62", 2 + 2*200 + 86},
		{mixed, api.ERuns, "\xc8\x01\x01\x02\x00\x01\x02\x02", "\x01\x02\x60\x01\x02\x62", 2 + 3*200 + 86},
		{mixed, api.EDict, "\x96\x01\x02\x00\x02\x02\x02\x04", "\x93\x01\x94\x01\x95\x01" + seq(50), 2 + 2*150 + 86 + 2 + 200 + 22},
		{mixed, api.EDelta, "\xc8\x01\x00\x02\x02", "\x02\xa9\x02" + strings.Repeat("\x02", 49), 2 + 200 + 1},
	} {
		got, e := chunk.Pack(c.l, c.enc)
		if e != api.OK || len(got) != c.long || !strings.HasPrefix(got, c.start) || !strings.HasSuffix(got, c.end) {
			t.Errorf("Pack(.., %d) = %q with %d bytes, %d", c.enc, got, len(got), e)
		}
	}
}

// seq returns the bytes from 0 on, so many.
func seq(n int) string {
	var b []byte
	for i := range n {
		b = append(b, byte(i))
	}
	return string(b)
}

func TestPackAsDefined(t *testing.T) {
	for _, l := range samples(3000) {
		for _, enc := range encodings {
			want, ok := defined(l, enc)
			got, e := chunk.Pack(l, enc)
			if got != want || ok != (e == api.OK) || !ok && e != api.ErrType {
				t.Errorf("Pack(%s, %d) = %q, %d; not %q", shown(l), enc, got, e, want)
			}
		}
	}
}

func TestPackErrors(t *testing.T) {
	for _, v := range invalid() {
		for _, l := range [][]api.Value{{v}, {number(1), v}, {v, {}}} {
			for _, enc := range append(noEncodings, encodings...) {
				if s, e := chunk.Pack(l, enc); s != "" || e != api.ErrForm {
					t.Errorf("Pack(%v, %d) = %q, %d", l, enc, s, e)
				}
			}
			if enc, s, e := chunk.Best(l); enc != 0 || s != "" || e != api.ErrForm {
				t.Errorf("Best(%v) = %d, %q, %d", l, enc, s, e)
			}
			if sizes, e := chunk.Sizes(l); sizes != [4]int{} || e != api.ErrForm {
				t.Errorf("Sizes(%v) = %v, %d", l, sizes, e)
			}
		}
	}
	for _, enc := range noEncodings {
		for _, l := range []string{"[]", "[1]", "[null]"} {
			if s, e := chunk.Pack(values(t, l), enc); s != "" || e != api.ErrArg {
				t.Errorf("Pack(%s, %d) = %q, %d", l, enc, s, e)
			}
		}
	}
	for _, l := range []string{"[null]", "[true]", `["1"]`, "[[1]]", "[{}]", "[1,null]", "[null,1]", "[1,2,false,3]", `[1,2,""]`} {
		if s, e := chunk.Pack(values(t, l), api.EDelta); s != "" || e != api.ErrType {
			t.Errorf("Pack(%s, EDelta) = %q, %d", l, s, e)
		}
	}
}

func TestPackLimit(t *testing.T) {
	for _, v := range []api.Value{{}, number(1)} {
		var l []api.Value
		for range api.MaxRows {
			l = append(l, v)
		}
		more := append(l, v)
		for _, enc := range encodings {
			if _, e := chunk.Pack(l, enc); e != api.OK && (e != api.ErrType || v.Kind == api.KInt) {
				t.Errorf("Pack(200, %d): %d", enc, e)
			}
			if s, e := chunk.Pack(more, enc); s != "" || e != api.ErrForm {
				t.Errorf("Pack(201, %d) = %q, %d", enc, s, e)
			}
		}
		if _, _, e := chunk.Best(l); e != api.OK {
			t.Errorf("Best(200): %d", e)
		}
		if enc, s, e := chunk.Best(more); enc != 0 || s != "" || e != api.ErrForm {
			t.Errorf("Best(201) = %d, %q, %d", enc, s, e)
		}
		if _, e := chunk.Sizes(l); e != api.OK {
			t.Errorf("Sizes(200): %d", e)
		}
		if sizes, e := chunk.Sizes(more); sizes != [4]int{} || e != api.ErrForm {
			t.Errorf("Sizes(201) = %v, %d", sizes, e)
		}
	}
}

// An empty slice is the same as none.
func TestPackNil(t *testing.T) {
	bare := []api.Value{list(), {Kind: api.KObject}}
	empty := []api.Value{
		{Kind: api.KList, Items: []api.Value{}, Keys: []string{}},
		{Kind: api.KObject, Items: []api.Value{}, Keys: []string{}},
	}
	for _, enc := range encodings {
		a, e := chunk.Pack(nil, enc)
		if b, f := chunk.Pack([]api.Value{}, enc); a != b || e != api.OK || f != api.OK {
			t.Errorf("Pack of nothing, %d: %q, %d; %q, %d", enc, a, e, b, f)
		}
		a, e = chunk.Pack(bare, enc)
		if b, f := chunk.Pack(empty, enc); a != b || e != f {
			t.Errorf("Pack of empty values, %d: %q, %d; %q, %d", enc, a, e, b, f)
		}
	}
	if s, _ := chunk.Pack([]api.Value{bare[0], empty[0]}, api.ERuns); s != "\x01\x02\x04\x00" {
		t.Errorf("two empty lists are no run: %q", s)
	}
}

func TestPackChangesNothing(t *testing.T) {
	for _, l := range samples(300) {
		kept := twin(l)
		for _, enc := range encodings {
			chunk.Pack(l, enc)
		}
		chunk.Best(l)
		chunk.Sizes(l)
		if !same(l, kept) {
			t.Errorf("%s became %s", shown(kept), shown(l))
		}
	}
}

// P5.3.
func TestRunsDifferInCountsOnly(t *testing.T) {
	for _, l := range samples(1000) {
		once, e := chunk.Pack(l, api.ERuns)
		if e != api.OK {
			t.Fatalf("Pack(%s): %d", shown(l), e)
		}
		counts, rest := splitRuns(t, l, once)
		for _, times := range []int{1, 2, 3, 7} {
			if len(l)*times > api.MaxRows {
				break
			}
			var repeated []api.Value
			for _, v := range l {
				for range times {
					repeated = append(repeated, v)
				}
			}
			more, e := chunk.Pack(repeated, api.ERuns)
			if e != api.OK {
				t.Fatalf("Pack(%s): %d", shown(repeated), e)
			}
			moreCounts, moreRest := splitRuns(t, repeated, more)
			if rest != moreRest || len(counts) != len(moreCounts) {
				t.Fatalf("%s, repeated %d times: %q and %q", shown(l), times, once, more)
			}
			for i, n := range counts {
				if moreCounts[i] != times*n {
					t.Errorf("%s, repeated %d times: runs of %v and %v", shown(l), times, counts, moreCounts)
				}
			}
		}
	}
}

// splitRuns returns the counts in the ERuns encoding of l, and the bytes without the counts.
func splitRuns(t *testing.T, l []api.Value, bytes string) ([]int, string) {
	t.Helper()
	var counts []int
	var distinct []api.Value
	for i, v := range l {
		if i > 0 && same(l[i-1:i], l[i:i+1]) {
			counts[len(counts)-1]++
			continue
		}
		counts, distinct = append(counts, 1), append(distinct, v)
	}
	rest := packedNumber(t, len(counts))
	whole := rest
	for i, v := range distinct {
		code, _ := defined([]api.Value{v}, api.EPlain)
		rest += code[1:]
		whole += packedNumber(t, counts[i]) + code[1:]
	}
	if whole != bytes {
		t.Errorf("%q is not %q", bytes, whole)
	}
	return counts, rest
}

func packedNumber(t *testing.T, n int) string {
	t.Helper()
	s, e := chunk.Number(n)
	if e != api.OK {
		t.Fatalf("Number(%d): %d", n, e)
	}
	return s
}
