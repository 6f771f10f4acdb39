package store_test

import (
	"strconv"
	"strings"
	"testing"

	"cirrus/api"
	"cirrus/store"
)

// extremes lists numbers that are far from those of files, positions and bytes.
var extremes = []int{-1 << 63, -1 << 32, -256, -1, 1 << 16, 1 << 32, 1<<32 + 1, 1<<63 - 1}

// storeOf returns a store with files of these bytes, numbered from 1 on.
func storeOf(t testing.TB, files ...string) *store.Store {
	t.Helper()
	s := store.New()
	for i, bytes := range files {
		if n, e := s.Put(bytes); n != i+1 || e != api.OK {
			t.Fatalf("Put %d = %d, %d", i+1, n, e)
		}
	}
	return s
}

// holed returns such a store after the files with these numbers were dropped.
func holed(t testing.TB, s *store.Store, drop ...int) *store.Store {
	t.Helper()
	for _, file := range drop {
		if e := s.Drop(file); e != api.OK {
			t.Fatalf("Drop(%d) = %d", file, e)
		}
	}
	return s
}

// shown returns all that can be read from a store.
func shown(t testing.TB, s *store.Store) string {
	t.Helper()
	all := []string{strconv.Itoa(s.Most()) + " most, " + strconv.Itoa(s.Used()) + " used"}
	for _, file := range s.Files() {
		bytes, e := s.Get(file)
		if e != api.OK {
			t.Errorf("Get(%d) = %d, though it is one of Files", file, e)
		}
		all = append(all, strconv.Itoa(file)+" "+strconv.Quote(bytes))
	}
	return strings.Join(all, "; ")
}

// refused checks that the call returns the error, and changes none of the stores.
func refused(t *testing.T, what string, want api.Errno, call func() api.Errno, stores ...*store.Store) {
	t.Helper()
	var before []string
	for _, s := range stores {
		before = append(before, shown(t, s))
	}
	if e := call(); e != want {
		t.Errorf("%s = %d, not %d", what, e, want)
	}
	for i, s := range stores {
		if after := shown(t, s); after != before[i] {
			t.Errorf("%s: store %d was %.300s, and is %.300s", what, i, before[i], after)
		}
	}
}

// dice returns numbers that look like random ones and are always the same.
type dice uint64

func (d *dice) roll(n int) int {
	*d = *d*6364136223846793005 + 1442695040888963407
	return int(uint64(*d)>>33) % n
}

// bytes returns up to four bytes.
func (d *dice) bytes() string {
	b := make([]byte, d.roll(5))
	for i := range b {
		b[i] = byte(d.roll(256))
	}
	return string(b)
}
