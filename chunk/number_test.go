package chunk_test

import (
	"encoding/binary"
	"hash/adler32"
	"strings"
	"testing"

	"cirrus/api"
	"cirrus/chunk"
)

func TestNumber(t *testing.T) {
	for n, want := range map[int]string{
		0: "\x00", 1: "\x01", 127: "\x7f", 128: "\x80\x01", 129: "\x81\x01", 255: "\xff\x01", 256: "\x80\x02", 300: "\xac\x02",
		16383: "\xff\x7f", 16384: "\x80\x80\x01", 2000000000000: "\x80\xc0\xa8\xca\x9a\x3a",
		1<<63 - 1: "\xff\xff\xff\xff\xff\xff\xff\xff\x7f",
	} {
		if got, e := chunk.Number(n); got != want || e != api.OK {
			t.Errorf("Number(%d) = %q, %d; not %q", n, got, e, want)
		}
	}
	for shift := range 63 {
		for _, n := range []int{1<<shift - 1, 1 << shift, 1<<shift + 1} {
			want := string(binary.AppendUvarint(nil, uint64(n)))
			if got, e := chunk.Number(n); got != want || e != api.OK {
				t.Errorf("Number(%d) = %q, %d; not %q", n, got, e, want)
			}
		}
	}
	for _, n := range []int{-1, -2, -128, -300, -api.MaxInt, -1 << 63} {
		if got, e := chunk.Number(n); got != "" || e != api.ErrArg {
			t.Errorf("Number(%d) = %q, %d", n, got, e)
		}
	}
}

// sumOf returns what the chapter calls the checksum; others call it Adler-32.
func sumOf(bytes string) int { return int(adler32.Checksum([]byte(bytes))) }

func TestSum(t *testing.T) {
	for bytes, want := range map[string]int{"": 1, "\x00": 1<<16 + 1, "a": 98<<16 + 98, "ab": 294<<16 + 196, "Wikipedia": 0x11E60398} {
		if got := chunk.Sum(bytes); got != want {
			t.Errorf("Sum(%q) = %d, not %d", bytes, got, want)
		}
	}
	for _, bytes := range []string{
		seq(256), strings.Repeat("\xff", 256), strings.Repeat("\xff", 257), strings.Repeat("\xff", 258), strings.Repeat("\x00", 65520), strings.Repeat("\x00", 65521), strings.Repeat("\x00", 70000),
		strings.Repeat("\xff", 1<<20), strings.Repeat(seq(251), 999), "\xf0" + strings.Repeat("\xff", 256),
	} {
		if got, want := chunk.Sum(bytes), sumOf(bytes); got != want {
			t.Errorf("Sum(%.9q.., %d bytes) = %d, not %d", bytes, len(bytes), got, want)
		}
	}
	d := dice(7)
	for range 2000 {
		b := make([]byte, d.roll(300))
		for i := range b {
			b[i] = byte(d.roll(256))
		}
		if got, want := chunk.Sum(string(b)), sumOf(string(b)); got != want {
			t.Errorf("Sum(%q) = %d, not %d", b, got, want)
		}
	}
}

// P5.4.
func TestSumOfDamaged(t *testing.T) {
	for _, s := range []string{"\x00", "\xff", "cirrus", seq(256), strings.Repeat("\xff", 600), strings.Repeat("\x00", 600)} {
		sum := chunk.Sum(s)
		for i := range len(s) {
			for c := range 256 {
				if byte(c) == s[i] {
					continue
				}
				changed := s[:i] + string([]byte{byte(c)}) + s[i+1:]
				if chunk.Sum(changed) == sum {
					t.Fatalf("Sum(%.20q..) is that of another byte %d at %d", s, c, i)
				}
			}
		}
	}
}
