package store_test

import (
	"slices"
	"strings"
	"testing"

	"cirrus/api"
	"cirrus/store"
)

func TestNew(t *testing.T) {
	s := store.New()
	if got := shown(t, s); got != "0 most, 0 used" {
		t.Errorf("New: %s", got)
	}
	other := store.New()
	s.Put("a")
	if got := shown(t, other); got != "0 most, 0 used" {
		t.Errorf("after Put in another one: %s", got)
	}
}

// allBytes returns each byte once.
func allBytes() string {
	b := make([]byte, 256)
	for i := range b {
		b[i] = byte(i)
	}
	return string(b)
}

func TestPutAndGet(t *testing.T) {
	files := []string{"a", "", "bcd", allBytes(), "a", "\x00", "\xff\xfe"}
	s := storeOf(t, files...)
	for i, bytes := range files {
		if got, e := s.Get(i + 1); got != bytes || e != api.OK {
			t.Errorf("Get(%d) = %q, %d; not %q", i+1, got, e, bytes)
		}
	}
	if got := s.Files(); !slices.Equal(got, []int{1, 2, 3, 4, 5, 6, 7}) || s.Most() != 7 || s.Used() != 1+3+256+1+1+2 {
		t.Errorf("Files %v, Most %d, Used %d", got, s.Most(), s.Used())
	}
}

// absent lists numbers of no file, of a store of which 2 was dropped and 4 is the greatest number.
func absent() []int { return append([]int{0, 2, 5, api.MaxFiles, api.MaxFiles + 1}, extremes...) }

func TestGetNone(t *testing.T) {
	s := holed(t, storeOf(t, "a", "b", "c", "d"), 2)
	for _, file := range absent() {
		refused(t, "Get", api.ErrNone, func() api.Errno {
			bytes, e := s.Get(file)
			if bytes != "" {
				t.Errorf("Get(%d) = %q", file, bytes)
			}
			return e
		}, s)
	}
}

func TestDrop(t *testing.T) {
	s := holed(t, storeOf(t, "a", "b", "c", "d"), 2)
	if got := shown(t, s); got != `4 most, 3 used; 1 "a"; 3 "c"; 4 "d"` {
		t.Errorf("after Drop(2): %s", got)
	}
	for _, file := range absent() {
		refused(t, "Drop", api.ErrNone, func() api.Errno { return s.Drop(file) }, s)
	}
	holed(t, s, 4, 1, 3)
	if got := shown(t, s); got != "4 most, 0 used" {
		t.Errorf("after Drop of all: %s", got)
	}
	if n, e := s.Put("e"); n != 5 || e != api.OK {
		t.Errorf("Put = %d, %d", n, e)
	}
}

// Example 1.
func TestNumberAfterDrop(t *testing.T) {
	s := holed(t, storeOf(t, "a", "bc"), 2)
	if n, e := s.Put("d"); n != 3 || e != api.OK {
		t.Errorf("Put = %d, %d", n, e)
	}
	if got := shown(t, s); got != `3 most, 2 used; 1 "a"; 3 "d"` {
		t.Errorf("then: %s", got)
	}
}

func TestLargestFile(t *testing.T) {
	large := strings.Repeat("x", api.MaxBytes)
	s := store.New()
	if n, e := s.Put(large); n != 1 || e != api.OK {
		t.Errorf("Put of %d bytes = %d, %d", len(large), n, e)
	}
	if e := s.Damage(1, api.MaxBytes-1, 1); e != api.OK {
		t.Errorf("Damage = %d", e)
	}
	if got, e := s.Get(1); got != large[1:]+"y" || e != api.OK {
		t.Errorf("Get = %d bytes, %d", len(got), e)
	}
	if n, e := s.Put(large + "x"); n != 0 || e != api.ErrSize {
		t.Errorf("Put of %d bytes = %d, %d", len(large)+1, n, e)
	}
	if s.Most() != 1 || s.Used() != api.MaxBytes || !slices.Equal(s.Files(), []int{1}) {
		t.Errorf("Most %d, Used %d, Files %v", s.Most(), s.Used(), s.Files())
	}
}

// full returns a store that has used all numbers there are.
func full(t testing.TB) *store.Store {
	return storeOf(t, slices.Repeat([]string{"x"}, api.MaxFiles)...)
}

func TestMostFiles(t *testing.T) {
	s := full(t)
	put := func() api.Errno {
		n, e := s.Put("")
		if n != 0 {
			t.Errorf("Put = %d", n)
		}
		return e
	}
	refused(t, "Put after all numbers", api.ErrSize, put, s)
	if s.Most() != api.MaxFiles || s.Used() != api.MaxFiles || len(s.Files()) != api.MaxFiles {
		t.Errorf("Most %d, Used %d, %d Files", s.Most(), s.Used(), len(s.Files()))
	}
	holed(t, s, s.Files()...)
	refused(t, "Put after Drop of all", api.ErrSize, put, s)
	s = store.New()
	if e := s.Copy(full(t), api.MaxFiles); e != api.OK {
		t.Errorf("Copy = %d", e)
	}
	refused(t, "Put after Copy of the greatest number", api.ErrSize, put, s)
	if e := s.Copy(full(t), 1); e != api.OK || !slices.Equal(s.Files(), []int{1, api.MaxFiles}) {
		t.Errorf("Copy = %d; Files %v", e, s.Files())
	}
}

func TestMissing(t *testing.T) {
	s := holed(t, storeOf(t, "a", "b", "", "d"), 2)
	for _, c := range []struct{ l, want []int }{
		{nil, nil}, {[]int{}, nil}, {[]int{1, 3, 4, 1}, nil}, {[]int{2}, []int{2}}, {[]int{5, 1, 2, 5, 3, 2}, []int{2, 5}},
		{[]int{0, 1<<63 - 1, -1, -1 << 63, 4, 0, 1 << 32, 1<<32 + 1}, []int{-1 << 63, -1, 0, 1 << 32, 1<<32 + 1, 1<<63 - 1}},
	} {
		l := slices.Clone(c.l)
		if got := s.Missing(l); !slices.Equal(got, c.want) || !slices.Equal(l, c.l) {
			t.Errorf("Missing(%v) = %v, not %v; then it is given %v", c.l, got, c.want, l)
		}
	}
	if got := store.New().Missing([]int{1, 0}); !slices.Equal(got, []int{0, 1}) {
		t.Errorf("Missing of an empty store = %v", got)
	}
	if got := shown(t, s); got != `4 most, 2 used; 1 "a"; 3 ""; 4 "d"` {
		t.Errorf("after Missing: %s", got)
	}
}

// Writing into what was returned changes neither the store nor what was given.
func TestResultsAreNewMemory(t *testing.T) {
	s := storeOf(t, "a", "b", "c")
	l := []int{9, 8, 7}
	for _, got := range [][]int{s.Files(), s.Files(), s.Missing(l), s.Missing([]int{4})} {
		got = got[:cap(got)]
		for i := range got {
			got[i] = -77
		}
	}
	if got := s.Files(); !slices.Equal(got, []int{1, 2, 3}) {
		t.Errorf("Files = %v", got)
	}
	if got := s.Missing(l); !slices.Equal(got, []int{7, 8, 9}) || !slices.Equal(l, []int{9, 8, 7}) {
		t.Errorf("Missing(%v) = %v", l, got)
	}
}

// Example 2.
func TestCopyIntoNew(t *testing.T) {
	from := storeOf(t, "a", "b", "c", "d", "e", "f", "gh", "i")
	s := store.New()
	if e := s.Copy(from, 7); e != api.OK {
		t.Errorf("Copy = %d", e)
	}
	if got := shown(t, s); got != `7 most, 2 used; 7 "gh"` {
		t.Errorf("after Copy: %s", got)
	}
	if n, e := s.Put("x"); n != 8 || e != api.OK {
		t.Errorf("Put = %d, %d", n, e)
	}
	if got := shown(t, from); got != `8 most, 9 used; 1 "a"; 2 "b"; 3 "c"; 4 "d"; 5 "e"; 6 "f"; 7 "gh"; 8 "i"` {
		t.Errorf("the store that was copied from: %s", got)
	}
}

// A number below the greatest one leaves that as it is; one whose file was dropped can have a file again.
func TestCopyBelow(t *testing.T) {
	from := storeOf(t, "a", "b", "c")
	s := holed(t, storeOf(t, "u", "v", "w", "x"), 2, 3)
	for _, file := range []int{3, 2} {
		if e := s.Copy(from, file); e != api.OK {
			t.Errorf("Copy(%d) = %d", file, e)
		}
	}
	if got := shown(t, s); got != `4 most, 4 used; 1 "u"; 2 "b"; 3 "c"; 4 "x"` {
		t.Errorf("after Copy: %s", got)
	}
	if n, e := s.Put(""); n != 5 || e != api.OK {
		t.Errorf("Put = %d, %d", n, e)
	}
}

// What is copied is another file from then on.
func TestCopyIsIndependent(t *testing.T) {
	from, s := storeOf(t, "abc"), store.New()
	s.Copy(from, 1)
	if e := s.Damage(1, 0, 1); e != api.OK {
		t.Errorf("Damage = %d", e)
	}
	if e := from.Damage(1, 2, 2); e != api.OK {
		t.Errorf("Damage = %d", e)
	}
	if got := shown(t, s) + ", " + shown(t, from); got != `1 most, 3 used; 1 "bbc", 1 most, 3 used; 1 "abe"` {
		t.Errorf("after Damage: %s", got)
	}
	holed(t, from, 1)
	if got := shown(t, s); got != `1 most, 3 used; 1 "bbc"` {
		t.Errorf("after Drop: %s", got)
	}
}

func TestCopyErrors(t *testing.T) {
	from := holed(t, storeOf(t, "a", "b", "c", "d"), 2)
	s := storeOf(t, "u", "v", "w")
	for _, file := range absent() { // of these, s has 2
		refused(t, "Copy of none", api.ErrNone, func() api.Errno { return s.Copy(from, file) }, s, from)
		refused(t, "Copy of none from itself", api.ErrNone, func() api.Errno { return from.Copy(from, file) }, from)
	}
	for _, file := range []int{1, 3} {
		refused(t, "Copy of what is there", api.ErrTwice, func() api.Errno { return s.Copy(from, file) }, s, from)
		refused(t, "Copy from itself", api.ErrTwice, func() api.Errno { return s.Copy(s, file) }, s)
	}
	for _, none := range none() {
		for _, file := range append([]int{1, 4}, absent()...) {
			refused(t, "Copy from no store", api.ErrArg, func() api.Errno { return s.Copy(none, file) }, s)
		}
	}
}

func TestDamage(t *testing.T) {
	for by := 1; by < 256; by++ {
		for at := range 256 {
			s := storeOf(t, "before", allBytes(), "after")
			if e := s.Damage(2, at, by); e != api.OK {
				t.Fatalf("Damage(2, %d, %d) = %d", at, by, e)
			}
			want := []byte(allBytes())
			want[at] = byte((at + by) % 256)
			if got, _ := s.Get(2); got != string(want) {
				t.Fatalf("Damage(2, %d, %d): byte %d", at, by, got[at])
			}
			if got := shown(t, holed(t, s, 2)); got != `3 most, 11 used; 1 "before"; 3 "after"` {
				t.Fatalf("Damage(2, %d, %d): %s", at, by, got)
			}
		}
	}
}

func TestDamageErrors(t *testing.T) {
	s := holed(t, storeOf(t, "abc", "b", "", "d"), 2)
	for _, file := range absent() {
		for _, at := range []int{-1, 0, 1} {
			for _, by := range []int{0, 1, 256} {
				refused(t, "Damage of none", api.ErrNone, func() api.Errno { return s.Damage(file, at, by) }, s)
			}
		}
	}
	for _, at := range append([]int{3, 4}, extremes...) {
		for _, by := range []int{0, 1, 255, 256} {
			refused(t, "Damage at no position", api.ErrArg, func() api.Errno { return s.Damage(1, at, by) }, s)
		}
	}
	for _, by := range append([]int{0, 256, 257, 511}, extremes...) {
		refused(t, "Damage by no byte", api.ErrArg, func() api.Errno { return s.Damage(1, 0, by) }, s)
	}
	refused(t, "Damage of an empty file", api.ErrArg, func() api.Errno { return s.Damage(3, 0, 1) }, s)
}

// R7.
func TestClone(t *testing.T) {
	s := holed(t, storeOf(t, "a", "bc", "d"), 3)
	c := s.Clone()
	const at = `3 most, 3 used; 1 "a"; 2 "bc"`
	if got := shown(t, c); got != at {
		t.Errorf("Clone: %s", got)
	}
	if n, e := c.Put("e"); n != 4 || e != api.OK { // no number that s has used
		t.Errorf("Put = %d, %d", n, e)
	}
	holed(t, c, 1)
	c.Damage(2, 0, 1)
	c.Copy(storeOf(t, "", "", "f"), 3)
	if got := shown(t, s); got != at {
		t.Errorf("after calls on the clone: %s", got)
	}
	const then = `4 most, 4 used; 2 "cc"; 3 "f"; 4 "e"`
	if got := shown(t, c); got != then {
		t.Errorf("the clone: %s", got)
	}
	s.Put("g")
	s.Put("h")
	holed(t, s, 2)
	if got := shown(t, c); got != then {
		t.Errorf("the clone after calls on the store: %s", got)
	}
	if got := shown(t, store.New().Clone().Clone()); got != "0 most, 0 used" {
		t.Errorf("Clone of an empty store: %s", got)
	}
}

// none lists what is no store that New or Clone returned.
func none() []*store.Store {
	return []*store.Store{nil, new(store.Store), new(store.Store).Clone()}
}

// R1.
func TestNoStore(t *testing.T) {
	good := storeOf(t, "a")
	for i, s := range none() {
		for range 2 { // the first calls have not made it a store
			for _, file := range append([]int{0, 1}, extremes...) {
				if bytes, e := s.Get(file); bytes != "" || e != api.ErrState {
					t.Errorf("%d: Get = %q, %d", i, bytes, e)
				}
				all := [4]api.Errno{s.Drop(file), s.Damage(file, file, file), s.Copy(good, file), s.Copy(s, file)}
				if all != [4]api.Errno{api.ErrState, api.ErrState, api.ErrState, api.ErrState} {
					t.Errorf("%d: Drop, Damage, Copy, Copy from itself = %v", i, all)
				}
			}
			if e := s.Copy(nil, 1); e != api.ErrState {
				t.Errorf("%d: Copy from no store = %d", i, e)
			}
			for _, bytes := range []string{"", "a", strings.Repeat("x", api.MaxBytes+1)} {
				if n, e := s.Put(bytes); n != 0 || e != api.ErrState {
					t.Errorf("%d: Put = %d, %d", i, n, e)
				}
			}
			if len(s.Files()) != 0 || s.Most() != 0 || s.Used() != 0 || len(s.Missing([]int{1, 2})) != 0 || s.Clone() != nil {
				t.Errorf("%d: Files %v, Most %d, Used %d, Missing %v, Clone %v", i, s.Files(), s.Most(), s.Used(), s.Missing([]int{1, 2}), s.Clone())
			}
		}
	}
	if got := shown(t, good); got != `1 most, 1 used; 1 "a"` {
		t.Errorf("the store that was to be copied from: %s", got)
	}
}
