package chunk_test

import (
	"strings"
	"testing"

	"cirrus/api"
	"cirrus/chunk"
)

func TestUnpack(t *testing.T) {
	for _, s := range sheets() {
		want := values(t, s.values)
		for i, bytes := range s.bytes {
			if bytes == "-" {
				continue
			}
			if got, e := chunk.Unpack(bytes, i+1); !same(got, want) || e != api.OK {
				t.Errorf("Unpack(%q, %d) = %s, %d; not %s", bytes, i+1, shown(got), e, s.values)
			}
		}
	}
}

// P5.1, from values.
func TestPackAndBack(t *testing.T) {
	for _, l := range samples(3000) {
		for _, enc := range encodings {
			s, e := chunk.Pack(l, enc)
			if e != api.OK {
				continue
			}
			if got, e := chunk.Unpack(s, enc); !same(got, l) || e != api.OK {
				t.Errorf("Unpack(%q, %d) = %s, %d; not %s", s, enc, shown(got), e, shown(l))
			}
		}
	}
}

// damaged lists bytes that are those of no values, by encodings.
func damaged() map[int][]string {
	long := strings.Repeat("a", 101)
	return map[int][]string{
		api.EPlain: {
			"", "\x01", "\x00\x00", "\x01\x00\x00", "\x02\x00", "\x01\x06", "\x01\xff", "\x01\x80\x00", // too short, too long, no kind
			"\x80\x00", "\x81\x00\x00", "\x81\x80\x00\x00", "\x80", "\x81", // numbers that are not as short as possible, or do not end
			"\x80\x80\x80\x80\x80\x80\x80\x80\x80\x00", "\x80\x80\x80\x80\x80\x80\x80\x80\x80\x02", "\xff\xff\xff\xff\xff\xff\xff\xff\xff\xff\xff\x01",
			"\xc9\x01" + strings.Repeat("\x00", 201), "\xff\xff\xff\xff\xff\xff\xff\xff\x7f", // too many values
			"\x01\x01", "\x01\x01\x02", "\x01\x01\xff", "\x01\x01\x80\x00", // truths
			"\x01\x02", "\x01\x02\x80", "\x01\x02\x80\x00", "\x01\x02\x82\x00", "\x01\x02\x81\xc0\xa8\xca\x9a\x3a", "\x01\x02\x82\xc0\xa8\xca\x9a\x3a", // ints
			"\x01\x02\xff\xff\xff\xff\xff\xff\xff\xff\x7f", "\x01\x02\xfe\xff\xff\xff\xff\xff\xff\xff\x7f", "\x01\x02\xff\xff\xff\xff\xff\xff\xff\xff\xff\x01",
			"\x01\x03", "\x01\x03\x01", "\x01\x03\x02a", "\x01\x03\x01ab", "\x01\x03\x01\x1f", "\x01\x03\x01\x7f", "\x01\x03\x01\x80", "\x01\x03\x65" + long, "\x01\x03\x81\x00a", // texts
			"\x01\x03\xff\xff\xff\xff\xff\xff\xff\xff\x7fa", "\x01\x03\x80\x80\x80\x80\x10", "\x01\x03\x80\x80\x80\x80\x80\x80\x80\x80\x80\x01", "\x01\x03\xff\xff\xff\xff\xff\xff\xff\xff\xff\x01",
			"\x01\x04", "\x01\x04\x01", "\x01\x04\x02\x00", "\x01\x04\x00\x00", "\x01\x04\x01\x06", "\x01\x04\x80\x00", "\x01\x04\x3c" + strings.Repeat("\x00", 60), // lists
			"\x01\x04\xff\xff\xff\xff\xff\xff\xff\xff\x7f", "\x01\x04\x01\x04\x01\x04\x01\x04\x01\x04\x01\x04\x01\x00", "\x01\x04\x01\x04\x01\x04\x01\x04\x01\x04\x01\x04\x01\x04\x00",
			"\x01\x04\x02\x04\x1d" + strings.Repeat("\x00", 29) + "\x04\x1d" + strings.Repeat("\x00", 29),
			"\x01\x05", "\x01\x05\x01", "\x01\x05\x01\x01", "\x01\x05\x01\x01a", "\x01\x05\x01\x01\x09\x00", "\x01\x05\x01\x65" + long + "\x00", "\x01\x05\x00\x00", // objects
			"\x01\x05\x02\x01a\x00\x01a\x00", "\x01\x05\x02\x01b\x00\x01a\x00", "\x01\x05\x02\x02aa\x00\x01a\x00", "\x01\x05\x01\x01a\x06",
		},
		api.ERuns: {
			"", "\x01", "\x01\x01", "\x00\x00", "\x80\x00", "\x01\x01\x00\x00", "\x02\x01\x00", "\x01\x81\x00\x00", // too short, too long
			"\x01\x00\x00", "\x01\x00", "\x02\x01\x00\x00\x01\x00", "\x02\x00\x00\x01\x00", "\x03\x01\x00\x00\x02\x02\x01\x00", // runs of nothing
			"\x02\x01\x00\x01\x00", "\x02\x01\x02\x0a\x02\x02\x0a", "\x03\x01\x01\x00\x01\x03\x00\x01\x03\x00", // runs that are not maximal
			"\x01\xc9\x01\x00", "\x02\xc8\x01\x00\x01\x02\x00", "\x02\x64\x00\x65\x02\x00", "\x01\xff\xff\xff\xff\xff\xff\xff\xff\x7f\x00", // too many values
			"\xc9\x01" + strings.Repeat("\x01\x00\x01\x02\x00", 100) + "\x01\x00",
			"\x01\x01\x06", "\x01\x01\x01\x02", "\x01\x01\x03\x01\x0a", "\x01\x01\x02\x80\x00", "\x01\x02\x82\xc0\xa8\xca\x9a\x3a",
		},
		api.EDict: {
			"", "\x00", "\x01", "\x01\x00", "\x00\x00\x00", "\x80\x00\x00", "\x00\x80\x00", "\x01\x00\x01", "\x01\x00\x01\x00\x00", "\x01\x00\x81\x00\x00", "\x01\x00\x01\x80\x00", // too short, too long
			"\x01\x00\x00", "\x02\x00\x01\x00\x01\x00", "\x02\x00\x01\x00\x01\x01", "\x03\x00\x01\x00\x01\x01\x02\x00\x02", // values that do not occur
			"\x01\x00\x01\x01", "\x00\x01\x00", "\x01\x00\x02\x00\x01", "\x01\x00\x01\xff\xff\xff\xff\xff\xff\xff\xff\x7f", // indices of nothing
			"\x02\x00\x00\x02\x00\x01", "\x02\x00\x00\x01\x00", "\x02\x01\x00\x00\x02\x00\x01", "\x02\x02\x02\x02\x01\x02\x00\x01", "\x03\x00\x02\x02\x01\x00\x03\x00\x01\x02", // not rising
			"\x01\x00\xc9\x01" + strings.Repeat("\x00", 201), "\xff\xff\xff\xff\xff\xff\xff\xff\x7f", "\x01\x00\xff\xff\xff\xff\xff\xff\xff\xff\x7f\x00", // too many values
			"\x01\x06\x01\x00", "\x01\x01\x02\x01\x00", "\x01\x03\x01\x0a\x01\x00",
		},
		api.EDelta: {
			"", "\x01", "\x00\x00", "\x80\x00", "\x02\x00", "\x01\x00\x00", "\x01\x80", "\x01\x80\x00", "\x02\x02\x82\x00", "\x81\x00\x00", // too short, too long
			"\x01\x81\xc0\xa8\xca\x9a\x3a", "\x01\x82\xc0\xa8\xca\x9a\x3a", "\x02\x80\xc0\xa8\xca\x9a\x3a\x02", "\x02\xff\xbf\xa8\xca\x9a\x3a\x01", // beyond the limit of ints
			"\x03\x80\xc0\xa8\xca\x9a\x3a\x02\x01", "\x03\x00\x82\xc0\xa8\xca\x9a\x3a\x81\xc0\xa8\xca\x9a\x3a",
			"\x03\xfe\xff\xff\xff\xff\xff\xff\xff\x7f\xfe\xff\xff\xff\xff\xff\xff\xff\x7f\x06", "\x01\xff\xff\xff\xff\xff\xff\xff\xff\xff\x01",
			"\xc9\x01" + strings.Repeat("\x00", 201), "\xff\xff\xff\xff\xff\xff\xff\xff\x7f", // too many values
		},
	}
}

// P5.1: values are returned for no other bytes.
func TestUnpackDamaged(t *testing.T) {
	for enc, all := range damaged() {
		for _, bytes := range all {
			if l, e := chunk.Unpack(bytes, enc); len(l) != 0 || e != api.ErrSum {
				t.Errorf("Unpack(%q, %d) = %s, %d", bytes, enc, shown(l), e)
			}
		}
	}
}

func TestUnpackLarge(t *testing.T) {
	for _, bytes := range []string{
		strings.Repeat("\x00", 1<<20), strings.Repeat("\xff", 1<<20), strings.Repeat("\x80", 1<<20),
		"\x01" + strings.Repeat("\x04\x01", 1<<23), "\x01" + strings.Repeat("\x05\x01\x00", 1<<23), "\x01\x01" + strings.Repeat("\x04\x01", 1<<20),
		strings.Repeat("\x04", 1<<20), strings.Repeat("\x05", 1<<20), "\x01" + strings.Repeat("\x04\x3b", 1<<20), "\xc8\x01" + strings.Repeat("\x04\x3b", 1<<20),
	} {
		for _, enc := range encodings {
			if l, e := chunk.Unpack(bytes, enc); len(l) != 0 || e != api.ErrSum {
				t.Errorf("Unpack(%.9q.., %d) = %s, %d", bytes, enc, shown(l), e)
			}
		}
	}
}

func TestUnpackErrors(t *testing.T) {
	for _, enc := range noEncodings {
		for _, bytes := range []string{"", "\x00", "\x01\x00", "\xff"} {
			if l, e := chunk.Unpack(bytes, enc); len(l) != 0 || e != api.ErrArg {
				t.Errorf("Unpack(%q, %d) = %s, %d", bytes, enc, shown(l), e)
			}
		}
	}
}

// checkUnpack checks P5.1 for any bytes: they are those of what is returned, or it is ErrSum.
func checkUnpack(t *testing.T, bytes string, enc int) bool {
	t.Helper()
	l, e := chunk.Unpack(bytes, enc)
	if e != api.OK {
		if len(l) != 0 || e != api.ErrSum {
			t.Fatalf("Unpack(%q, %d) = %s, %d", bytes, enc, shown(l), e)
		}
		return false
	}
	if again, e := chunk.Pack(l, enc); again != bytes || e != api.OK {
		t.Fatalf("Unpack(%q, %d) = %s, for which Pack returns %q, %d", bytes, enc, shown(l), again, e)
	}
	if again, ok := defined(l, enc); again != bytes || !ok {
		t.Fatalf("Unpack(%q, %d) = %s, which is %q", bytes, enc, shown(l), again)
	}
	return true
}

// Of all bytes that are at most two, only these are those of values: of one byte, no values;
// of two bytes, a null (EPlain), no values (EDict), an int from -64 to 63 (EDelta).
func TestUnpackAllShort(t *testing.T) {
	want := map[int][3]int{api.EPlain: {0, 1, 1}, api.ERuns: {0, 1, 0}, api.EDict: {0, 0, 1}, api.EDelta: {0, 1, 128}}
	for _, enc := range encodings {
		var found [3]int
		for _, bytes := range shortBytes() {
			if checkUnpack(t, bytes, enc) {
				found[len(bytes)]++
			}
		}
		if found != want[enc] {
			t.Errorf("encoding %d: %v, not %v", enc, found, want[enc])
		}
	}
}

// shortBytes returns all bytes, at most two.
func shortBytes() []string {
	all := []string{""}
	for a := range 256 {
		all = append(all, string([]byte{byte(a)}))
		for b := range 256 {
			all = append(all, string([]byte{byte(a), byte(b)}))
		}
	}
	return all
}

// Bytes that are damaged somewhere are those of other values, or of none.
func TestUnpackChanged(t *testing.T) {
	d := dice(6)
	for _, l := range samples(1500) {
		for _, enc := range encodings {
			s, e := chunk.Pack(l, enc)
			if e != api.OK || len(s) > 2000 {
				continue
			}
			for range 10 {
				checkUnpack(t, d.damage(s), enc)
			}
		}
	}
}

// damage changes, removes or adds a byte, or leaves out the end.
func (d *dice) damage(s string) string {
	i, c := d.roll(len(s)), d.roll(8)
	if d.roll(3) == 0 {
		c = d.roll(256)
	}
	switch d.roll(4) {
	case 0:
		return s[:i] + s[i+1:]
	case 1:
		return s[:i] + string([]byte{byte(c)}) + s[i:]
	case 2:
		return s[:i]
	}
	return s[:i] + string([]byte{byte(c)}) + s[i+1:]
}

// What Unpack returns shares no memory with another result, and no two of its values do.
func TestUnpackMakesNewMemory(t *testing.T) {
	l := values(t, `[{"a":[1,{"b":2}]},{"a":[1,{"b":2}]},[[1]],{"a":[1,{"b":2}]}]`)
	for _, enc := range []int{api.EPlain, api.ERuns, api.EDict} {
		bytes, _ := chunk.Pack(l, enc)
		for i := range l {
			got, _ := chunk.Unpack(bytes, enc)
			other, _ := chunk.Unpack(bytes, enc)
			scribble(got[i].Items[0].Items)
			scribble(got[i].Items)
			for j := range got[i].Keys {
				got[i].Keys[j] = "scribble"
			}
			got[i] = l[i]
			if !same(got, l) || !same(other, l) {
				t.Errorf("encoding %d: after writing into value %d: %s and %s", enc, i, shown(got), shown(other))
			}
		}
	}
}

// FuzzUnpack checks P5.1 for any bytes.
func FuzzUnpack(f *testing.F) {
	for _, l := range samples(30) {
		for _, enc := range encodings {
			if s, e := chunk.Pack(l, enc); e == api.OK {
				f.Add(s, enc)
			}
		}
	}
	for enc, all := range damaged() {
		for _, bytes := range all {
			f.Add(bytes, enc)
		}
	}
	f.Fuzz(func(t *testing.T, bytes string, enc int) {
		checkUnpack(t, bytes, encodings[uint(enc)%4])
	})
}
