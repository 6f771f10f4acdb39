package part_test

import (
	"strings"
	"testing"

	"cirrus/api"
	"cirrus/part"
)

// sheet is rows, and their bytes without the checksum.
type sheet struct {
	rows  api.Rows
	bytes string
}

func sheets(t *testing.T) []sheet {
	long := strings.Repeat("x", 100)
	name := strings.Repeat("n", 24)
	return []sheet{
		{rowsOf(t, "a:int", "3 [7]"), "cir1\x01\x01a\x02\x02\x01\x06\x04\x02\x01\x0e"},
		{rowsOf(t, "a:int", "1 [null]"), "cir1\x01\x01a\x02\x02\x01\x02\x01\x02\x01\x00"},
		{rowsOf(t, name+":truth", "64 [true]"), "cir1\x01\x18" + name + "\x01\x03\x01\x80\x01\x01\x03\x01\x01\x01"},
		// A column of variants can have the encoding of ints.
		{rowsOf(t, "a:variant b:text", `5 [1,"x"]`, `4 [2,"x"]`, `7 [3,"x"]`), "cir1\x02\x01a\x04\x01b\x03\x04\x03\x0a\x01\x06\x04\x04\x03\x02\x02\x02\x02\x05\x01\x03\x03\x01x"},
		{rowsOf(t, "b:text a:int", "1000000000 [null,null]", "1 [null,null]"), "cir1\x02\x01b\x03\x01a\x02\x0b\x02\x80\xa8\xd6\xb9\x07\xfd\xa7\xd6\xb9\x07\x01\x03\x02\x00\x00\x01\x03\x02\x00\x00"},
		{rowsOf(t, "a:text", `1 ["aa"]`, `2 ["b"]`, `3 ["aa"]`, `4 ["b"]`, `5 ["aa"]`, `6 ["b"]`), "cir1\x01\x01a\x03\x07\x06\x02\x02\x02\x02\x02\x02\x03\x0f\x02\x03\x02aa\x03\x01b\x06\x00\x01\x00\x01\x00\x01"},
		// The number of bytes has two bytes itself.
		{rowsOf(t, "a:variant", `1 [["`+long+`",{"k":"`+long+`"}]]`), "cir1\x01\x01a\x04\x02\x01\x02\x01\xd3\x01\x01\x04\x02\x03\x64" + long + "\x05\x01\x01k\x03\x64" + long},
	}
}

func TestPack(t *testing.T) {
	for _, s := range sheets(t) {
		if got, e := part.Pack(s.rows); got != sealed(s.bytes) || e != api.OK {
			t.Errorf("Pack(%s) = %q, %d; not %q", shown(s.rows), got, e, sealed(s.bytes))
		}
	}
	// The checksum in digits: b is 6038, a is 499.
	if got := packed(t, rowsOf(t, "a:int", "3 [7]")); got != "cir1\x01\x01a\x02\x02\x01\x06\x04\x02\x01\x0e\x17\x96\x01\xf3" {
		t.Errorf("Pack = %q", got)
	}
}

func TestPackAsDefined(t *testing.T) {
	for _, r := range append(samples(3000), most()) {
		if got, e := part.Pack(r); got != defined(r) || e != api.OK {
			t.Errorf("Pack(%.300s) = %.300q, %d; not %.300q", shown(r), got, e, defined(r))
		}
	}
}

func TestPackErrors(t *testing.T) {
	for i, r := range badRows() {
		if s, e := part.Pack(r); s != "" || e != api.ErrForm {
			t.Errorf("Pack of bad rows %d = %q, %d", i, s, e)
		}
	}
}

// The largest partition is small enough for a file.
func TestPackOfMost(t *testing.T) {
	r := most()
	s := packed(t, r)
	if len(s) < 6000000 || len(s) > api.MaxBytes {
		t.Errorf("Pack: %d bytes", len(s))
	}
	if back, e := part.Unpack(s); shown(back) != shown(r) || e != api.OK {
		t.Errorf("Unpack: %d rows, %d", len(back.Rows), e)
	}
	if h, e := part.Look(s); shownHead(h) != shownHead(definedHead(r)) || e != api.OK {
		t.Errorf("Look: %d rows, %d", h.Rows, e)
	}
}

func TestArgumentsAreNotChanged(t *testing.T) {
	for _, r := range samples(300) {
		want := shown(r)
		part.Pack(r)
		part.Head(r)
		part.Stat(columnAt(r, 0))
		if shown(r) != want {
			t.Errorf("%s became %s", want, shown(r))
		}
	}
}
