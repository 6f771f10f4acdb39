package part_test

import (
	"slices"
	"strings"
	"testing"

	"cirrus/api"
	"cirrus/chunk"
	"cirrus/part"
)

func TestUnpack(t *testing.T) {
	for _, s := range sheets(t) {
		if got, e := part.Unpack(sealed(s.bytes)); shown(got) != shown(s.rows) || e != api.OK {
			t.Errorf("Unpack(%q) = %s, %d; not %s", sealed(s.bytes), shown(got), e, shown(s.rows))
		}
	}
}

// P6.1.
func TestPackAndBack(t *testing.T) {
	for _, r := range samples(3000) {
		s := packed(t, r)
		if got, e := part.Unpack(s); shown(got) != shown(r) || e != api.OK {
			t.Errorf("Unpack(%q) = %s, %d; not %s", s, shown(got), e, shown(r))
		}
		h, e := part.Head(r)
		if e != api.OK {
			t.Errorf("Head(%s): %d", shown(r), e)
		}
		if got, e := part.Look(s); shownHead(got) != shownHead(h) || e != api.OK {
			t.Errorf("Look(%q) = %s, %d; not %s", s, shownHead(got), e, shownHead(h))
		}
	}
}

// refused checks that the bytes are those of no partition.
func refused(t *testing.T, bytes string) {
	t.Helper()
	if r, e := part.Unpack(bytes); !noRows(r) || e != api.ErrSum {
		t.Errorf("Unpack(%.300q) = %s, %d", bytes, shown(r), e)
	}
	if h, e := part.Look(bytes); !noHead(h) || e != api.ErrSum {
		t.Errorf("Look(%.300q) = %s, %d", bytes, shownHead(h), e)
	}
	for _, name := range []string{"a", "b", "no_such"} {
		if l, e := part.Column(bytes, name); len(l) != 0 || e != api.ErrSum {
			t.Errorf("Column(%.300q, %s) = %s, %d", bytes, name, forms(l), e)
		}
	}
}

// P6.3.
func TestDamaged(t *testing.T) {
	for _, s := range sheets(t) {
		good := sealed(s.bytes)
		for i := range len(good) {
			for by := 1; by < 256; by++ {
				refused(t, good[:i]+string([]byte{good[i] + byte(by)})+good[i+1:])
			}
		}
		for c := range 256 {
			refused(t, good+string([]byte{byte(c)}))
		}
		for i := range len(good) {
			refused(t, good[:i])
		}
	}
	d := dice(63)
	for _, r := range samples(200) {
		s := packed(t, r)
		refused(t, s[:len(s)-1])
		refused(t, s+string([]byte{byte(d.roll(256))}))
		refused(t, s+s)
		for range 20 {
			i := d.roll(len(s))
			refused(t, s[:i]+string([]byte{s[i] + byte(1+d.roll(255))})+s[i+1:])
		}
	}
}

// unlike lists bytes that differ from those of a partition in one respect, the right checksum aside.
func unlike(t *testing.T) []string {
	name := strings.Repeat("n", 25)
	code := func(l []api.Value, enc int) string {
		s, e := chunk.Pack(l, enc)
		if e != api.OK {
			t.Fatalf("chunk.Pack: %d", e)
		}
		n, _ := chunk.Number(len(s))
		return n + s
	}
	long := func(n, first int) string {
		var l []api.Value
		for i := range n {
			l = append(l, number(first+i))
		}
		return "cir1\x01\x01a\x02" + code(l, api.EDelta) + "\x04" + code(l, api.EDelta)
	}
	ids := func(n ...int) string {
		var l []api.Value
		for _, id := range n {
			l = append(l, number(id))
		}
		return "cir1\x01\x01a\x04" + code(l, api.EDelta) + "\x01" + code(make([]api.Value, len(n)), api.EPlain)
	}
	return []string{
		// Too short, or with another beginning.
		"", "c", "cir", "cir1", "cir1\x00", "cir1\x01", "cir1\x01\x01", "cir1\x01\x01a", "cir1\x01\x01a\x02", "cir1\x01\x01a\x02\x02", "cir1\x01\x01a\x02\x02\x01\x06", "cir1\x01\x01a\x02\x02\x01\x06\x04",
		"cir0\x01\x01a\x02\x02\x01\x06\x04\x02\x01\x0e", "Cir1\x01\x01a\x02\x02\x01\x06\x04\x02\x01\x0e", "\x01\x01a\x02\x02\x01\x06\x04\x02\x01\x0e", "cir1cir1\x01\x01a\x02\x02\x01\x06\x04\x02\x01\x0e",
		// Columns: none, another number, too many, equal names, no words, no types.
		"cir1\x00\x02\x01\x06", "cir1\x00\x02\x01\x06\x04\x02\x01\x0e", "cir1\x02\x01a\x02\x02\x01\x06\x04\x02\x01\x0e", "cir1\xff\xff\xff\xff\x0f\x01a\x02\x02\x01\x06\x04\x02\x01\x0e",
		"cir1\x09\x01a\x02\x01b\x02\x01c\x02\x01d\x02\x01e\x02\x01f\x02\x01g\x02\x01h\x02\x01i\x02\x02\x01\x06" + strings.Repeat("\x04\x02\x01\x0e", 9),
		"cir1\x02\x01a\x02\x01a\x02\x02\x01\x06\x04\x02\x01\x0e\x04\x02\x01\x0e", "cir1\x02\x01a\x02\x01a\x04\x02\x01\x06\x04\x02\x01\x0e\x04\x02\x01\x0e",
		"cir1\x01\x01A\x02\x02\x01\x06\x04\x02\x01\x0e", "cir1\x01\x00\x02\x02\x01\x06\x04\x02\x01\x0e", "cir1\x01\x011\x02\x02\x01\x06\x04\x02\x01\x0e", "cir1\x01\x19" + name + "\x02\x02\x01\x06\x04\x02\x01\x0e",
		"cir1\x01\x01a\x00\x02\x01\x06\x04\x02\x01\x0e", "cir1\x01\x01a\x05\x02\x01\x06\x04\x02\x01\x0e", "cir1\x01\x01a\xff\x02\x01\x06\x04\x02\x01\x0e",
		"cir1\x01\x01a\x01\x02\x01\x06\x04\x02\x01\x0e", "cir1\x01\x01a\x03\x02\x01\x06\x04\x02\x01\x0e",
		// Numbers that are not as short as possible, or too large.
		"cir1\x81\x00\x01a\x02\x02\x01\x06\x04\x02\x01\x0e", "cir1\x01\x81\x00a\x02\x02\x01\x06\x04\x02\x01\x0e", "cir1\x01\x01a\x02\x82\x00\x01\x06\x04\x02\x01\x0e", "cir1\x01\x01a\x02\x02\x01\x06\x04\x82\x00\x01\x0e",
		"cir1\x81\x80\x80\x00\x01a\x02\x02\x01\x06\x04\x02\x01\x0e", "cir1\x81\x80\x80\x80\x80\x80\x80\x80\x80\x80\x00\x01a\x02\x02\x01\x06\x04\x02\x01\x0e",
		"cir1\x01\x01a\x02\x02\x01\x06\x04\x82\x80\x80\x80\x10\x01\x0e", "cir1\x01\x01a\x02\x02\x01\x06\x04\xff\xff\xff\x7f\x01\x0e", "cir1\x01\x01a\x02\x02\x01\x06\x04\xff\xff\xff\xff\xff\xff\xff\xff\x7f\x01\x0e",
		// Row numbers: none, not within the limits, equal ones, too many; not in their encoding, or with its number.
		ids(), ids(0), ids(-1), ids(api.MaxId + 1), ids(3, 3), ids(3, 2, 3), ids(3, 0), ids(1, -1), long(65, 1), long(200, 1), long(1, 0),
		"cir1\x01\x01a\x02\x01\x00\x04\x02\x01\x0e", "cir1\x01\x01a\x02\x00\x04\x02\x01\x0e", "cir1\x01\x01a\x02\x03\x01\x02\x06\x04\x02\x01\x0e", "cir1\x01\x01a\x02\x03\x01\x86\x00\x04\x02\x01\x0e",
		"cir1\x01\x01a\x02\x03\x01\x06\x00\x04\x02\x01\x0e", "cir1\x01\x01a\x02\x04\x02\x01\x06\x04\x02\x01\x0e",
		// Encodings: none, not the best one, not the first one of the best.
		"cir1\x01\x01a\x02\x02\x01\x06\x00\x02\x01\x0e", "cir1\x01\x01a\x02\x02\x01\x06\x05\x02\x01\x0e", "cir1\x01\x01a\x02\x02\x01\x06\xff\x02\x01\x0e",
		"cir1\x01\x01a\x02\x02\x01\x06\x01\x03\x01\x02\x0e", "cir1\x01\x01a\x02\x02\x01\x06\x02\x04\x01\x01\x02\x0e", "cir1\x01\x01a\x02\x02\x01\x06\x03\x05\x01\x02\x0e\x01\x00",
		"cir1\x01\x01a\x02\x03\x02\x02\x02\x02\x03\x01\x02\x00", "cir1\x01\x01a\x02\x04\x03\x02\x02\x02\x04\x04\x03\x0a\x00\x00",
		// Values: not as many as rows, or none.
		"cir1\x01\x01a\x02\x03\x02\x02\x02\x04\x02\x01\x0e", "cir1\x01\x01a\x02\x02\x01\x06\x04\x03\x02\x0e\x02", "cir1\x01\x01a\x02\x02\x01\x06\x04\x01\x00",
		"cir1\x02\x01a\x02\x01b\x02\x02\x01\x06\x04\x02\x01\x0e\x04\x03\x02\x0e\x02", "cir1\x02\x01a\x02\x01b\x02\x02\x01\x06\x04\x02\x01\x0e",
		"cir1\x01\x01a\x02\x02\x01\x06\x04\x03\x01\x0e\x00", "cir1\x01\x01a\x02\x02\x01\x06\x04\x01\x01", "cir1\x01\x01a\x02\x02\x01\x06\x04\x03\x01\x8e\x00", "cir1\x01\x01a\x04\x02\x01\x06\x01\x02\x01\x06",
		// Something left over.
		"cir1\x01\x01a\x02\x02\x01\x06\x04\x02\x01\x0e\x00", "cir1\x01\x01a\x02\x02\x01\x06\x04\x02\x01\x0e\x04\x02\x01\x0e", sealed("cir1\x01\x01a\x02\x02\x01\x06\x04\x02\x01\x0e") + "\x00",
	}
}

// Bytes are refused if they are not exactly those of a partition, although the checksum is right.
func TestUnpackUnlike(t *testing.T) {
	for _, s := range unlike(t) {
		refused(t, s)
		refused(t, sealed(s))
	}
}

func TestUnpackWrongSum(t *testing.T) {
	body := "cir1\x01\x01a\x02\x02\x01\x06\x04\x02\x01\x0e"
	sum := strings.TrimPrefix(sealed(body), body)
	backwards := []byte(sum)
	slices.Reverse(backwards)
	for _, s := range []string{"", "\x00\x00\x00\x00", string(backwards), sum[2:] + sum[:2], sum[1:], "\x00" + sum, "\x04" + sum, sum + sum} {
		refused(t, body+s)
	}
	if r, e := part.Unpack(body + sum); len(r.Rows) != 1 || e != api.OK {
		t.Errorf("Unpack = %s, %d", shown(r), e)
	}
}

func TestUnpackLarge(t *testing.T) {
	for _, s := range []string{
		strings.Repeat("\x00", 1<<22), strings.Repeat("\xff", 1<<22), strings.Repeat("cir1", 1<<20),
		"cir1" + strings.Repeat("\x00", 1<<22), "cir1" + strings.Repeat("\xff", 1<<22), "cir1" + strings.Repeat("\x08", 1<<22),
		"cir1\x01\x01a\x02" + strings.Repeat("\xff\xff\xff\x01", 1<<20), "cir1\x01\x01a\x02\x80\x80\x80\x01" + strings.Repeat("\x01", 1<<22),
		"cir1\x01\xff\xff\xff\x01" + strings.Repeat("a", 1<<22), "cir1\x01\x01a\x04\x02\x01\x06\x01\xff\xff\xff\x01\x01" + strings.Repeat("\x04\x01", 1<<21),
	} {
		refused(t, s)
		refused(t, sealed(s))
	}
}

// checkUnpack checks that bytes are refused, or are exactly those of the partition that is read.
func checkUnpack(t *testing.T, bytes string) bool {
	t.Helper()
	r, e := part.Unpack(bytes)
	if e != api.OK {
		refused(t, bytes)
		return false
	}
	if again, e := part.Pack(r); again != bytes || e != api.OK {
		t.Fatalf("Unpack(%q) = %s, for which Pack returns %q, %d", bytes, shown(r), again, e)
	}
	if defined(r) != bytes {
		t.Fatalf("Unpack(%q) = %s, which is %q", bytes, shown(r), defined(r))
	}
	if h, e := part.Look(bytes); shownHead(h) != shownHead(definedHead(r)) || e != api.OK {
		t.Fatalf("Look(%q) = %s, %d", bytes, shownHead(h), e)
	}
	return true
}

// Bytes that are damaged, and then get the right checksum, are those of other rows, or of none.
func TestUnpackChanged(t *testing.T) {
	d := dice(7)
	found := 0
	for _, r := range samples(700) {
		s := packed(t, r)
		for range 20 {
			if checkUnpack(t, sealed(d.damage(s[:len(s)-4]))) {
				found++
			}
		}
	}
	if found < 500 {
		t.Errorf("only %d of the changed ones were those of rows", found)
	}
}

// What is returned shares no memory, neither with another result nor within itself.
func TestUnpackMakesNewMemory(t *testing.T) {
	for _, r := range samples(300) {
		s := packed(t, r)
		m := memory{}
		for range 2 {
			rows, _ := part.Unpack(s)
			h, _ := part.Look(s)
			l, _ := part.Column(s, r.Cols[0].Name)
			if !m.rows(rows) || !m.head(h) || !m.values(l) {
				t.Errorf("results of %s share memory", shown(r))
			}
		}
	}
}

// FuzzUnpack checks that any bytes are refused, or are exactly those of the partition that is read.
func FuzzUnpack(f *testing.F) {
	for _, r := range samples(100) {
		s, e := part.Pack(r)
		if e != api.OK {
			f.Fatalf("Pack: %d", e)
		}
		f.Add(s[:len(s)-4])
	}
	f.Fuzz(func(t *testing.T, bytes string) {
		checkUnpack(t, bytes)
		// Without the right checksum nearly nothing would be looked at.
		checkUnpack(t, sealed(bytes))
	})
}
