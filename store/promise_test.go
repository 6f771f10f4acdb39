package store_test

import (
	"slices"
	"testing"

	"cirrus/api"
	"cirrus/store"
)

// file is a file of a model.
type file struct {
	number int
	bytes  string
}

// model is what the chapter says that a store is: files, and the greatest number used so far.
// Each change makes a new list, as the models of clones share theirs.
type model struct {
	files []file
	most  int
}

func (m *model) find(number int) int {
	return slices.IndexFunc(m.files, func(f file) bool { return f.number == number })
}

func (m *model) put(bytes string) (int, api.Errno) {
	if m.most == api.MaxFiles {
		return 0, api.ErrSize
	}
	m.most++
	m.files = append(slices.Clone(m.files), file{m.most, bytes})
	return m.most, api.OK
}

func (m *model) drop(number int) api.Errno {
	i := m.find(number)
	if i < 0 {
		return api.ErrNone
	}
	m.files = slices.Delete(slices.Clone(m.files), i, i+1)
	return api.OK
}

func (m *model) copy(from *model, number int) api.Errno {
	i := from.find(number)
	if i < 0 {
		return api.ErrNone
	}
	if m.find(number) >= 0 {
		return api.ErrTwice
	}
	m.files = append(slices.Clone(m.files), from.files[i])
	m.most = max(m.most, number)
	return api.OK
}

func (m *model) damage(number, at, by int) api.Errno {
	i := m.find(number)
	if i < 0 {
		return api.ErrNone
	}
	old := m.files[i].bytes
	if at < 0 || at >= len(old) || by < 1 || by > 255 {
		return api.ErrArg
	}
	b := string([]byte{byte((int(old[at]) + by) % 256)})
	m.files = slices.Clone(m.files)
	m.files[i].bytes = old[:at] + b + old[at+1:]
	return api.OK
}

// play is stores, each with its model.
type play struct {
	dice
	stores [3]*store.Store
	models [3]model
}

func newPlay(seed dice) *play {
	p := &play{dice: seed}
	for i := range p.stores {
		p.stores[i] = store.New()
	}
	return p
}

// number returns a number that a file of one of the stores has, or might have.
func (p *play) number() int { return p.roll(p.models[p.roll(3)].most+3) - 1 }

// step makes a call on one of the stores, and the same one on its model. It returns which call, on which store.
func (p *play) step(t *testing.T) (string, int) {
	t.Helper()
	i, k := p.roll(3), p.roll(3)
	s, m := p.stores[i], &p.models[i]
	var got, want api.Errno
	what := []string{"Put", "Put", "Drop", "Drop", "Copy", "Copy", "Copy", "Damage", "Damage", "Clone"}[p.roll(10)]
	switch what {
	case "Put":
		bytes := p.bytes()
		n, e := s.Put(bytes)
		wantN, wantE := m.put(bytes)
		if n != wantN {
			t.Errorf("Put = %d, not %d", n, wantN)
		}
		got, want = e, wantE
	case "Drop":
		file := p.number()
		got, want = s.Drop(file), m.drop(file)
	case "Copy":
		file := p.number()
		got, want = s.Copy(p.stores[k], file), m.copy(&p.models[k], file)
	case "Damage":
		file, at, by := p.number(), p.roll(6)-1, p.roll(258)
		got, want = s.Damage(file, at, by), m.damage(file, at, by)
	case "Clone":
		p.stores[i], p.models[i] = p.stores[k].Clone(), p.models[k]
	}
	if got != want {
		t.Errorf("%s = %d, not %d", what, got, want)
	}
	return what, i
}

// check compares all that a store returns with its model.
func (p *play) check(t *testing.T, i int) {
	t.Helper()
	s, m := p.stores[i], p.models[i]
	var numbers []int
	used := 0
	for _, f := range m.files {
		numbers = append(numbers, f.number)
		used += len(f.bytes)
	}
	slices.Sort(numbers)
	if got := s.Files(); !slices.Equal(got, numbers) || s.Most() != m.most || s.Used() != used {
		t.Fatalf("Files %v, Most %d, Used %d; not %v, %d, %d", got, s.Most(), s.Used(), numbers, m.most, used)
	}
	var missing []int
	for file := -1; file <= m.most+1; file++ {
		bytes, e := s.Get(file)
		want, wantE := "", api.ErrNone
		if at := m.find(file); at >= 0 {
			want, wantE = m.files[at].bytes, api.OK
		} else {
			missing = append(missing, file)
		}
		if bytes != want || e != wantE {
			t.Fatalf("Get(%d) = %q, %d; not %q, %d", file, bytes, e, want, wantE)
		}
	}
	l := append(append(numbers, missing...), missing...)
	slices.Reverse(l)
	if got := s.Missing(l); !slices.Equal(got, missing) {
		t.Fatalf("Missing(%v) = %v, not %v", l, got, missing)
	}
}

// Whatever calls are made, all is as the chapter says.
func TestModel(t *testing.T) {
	for seed := range 60 {
		p := newPlay(dice(seed))
		for range 300 {
			p.step(t)
			for i := range p.stores {
				p.check(t, i)
			}
		}
	}
}

// P8.1. The bytes of a file change only by Damage, and no Put returns a number that was used, by whatever call.
func TestNeverReused(t *testing.T) {
	d := dice(81)
	for range 200 {
		s, other := store.New(), storeOf(t, "p", "q", "r", "s", "t")
		known := map[int]string{}
		used := map[int]bool{}
		for range 60 {
			n := d.roll(12)
			switch d.roll(5) {
			case 0, 1:
				bytes := d.bytes()
				file, e := s.Put(bytes)
				if used[file] || e != api.OK {
					t.Fatalf("Put = %d, %d; used: %v", file, e, used)
				}
				known[file], used[file] = bytes, true
			case 2:
				if s.Drop(n) == api.OK {
					delete(known, n)
				}
			case 3:
				if s.Copy(other, n) == api.OK {
					known[n], used[n] = string(rune('o'+n)), true
				}
			case 4:
				if s.Damage(n, 0, 1+d.roll(255)) == api.OK {
					known[n], _ = s.Get(n)
				}
			}
			for file, want := range known {
				if got, e := s.Get(file); got != want || e != api.OK {
					t.Fatalf("Get(%d) = %q, %d; not %q", file, got, e, want)
				}
			}
		}
	}
}

// P8.2. Used and Files are changed only by Put, Drop and Copy, and only of the store on which they are called.
func TestUsed(t *testing.T) {
	for seed := range 60 {
		p := newPlay(dice(8200 + seed))
		for range 300 {
			before := p.stores
			var used [3]int
			var files [3][]int
			for i, s := range before {
				used[i], files[i] = s.Used(), s.Files()
			}
			what, on := p.step(t)
			for i, s := range before {
				s.Get(1)
				s.Most()
				s.Missing([]int{1, 2, 3})
				mayChange := i == on && (what == "Put" || what == "Drop" || what == "Copy")
				if !mayChange && (s.Used() != used[i] || !slices.Equal(s.Files(), files[i])) {
					t.Fatalf("%s on %d: Used of %d was %d, and is %d; Files %v, and %v", what, on, i, used[i], s.Used(), files[i], s.Files())
				}
			}
		}
	}
}

// P8.3. A store into which all files were copied has the same files, and goes on with the same number if the one with the greatest is there.
func TestCopied(t *testing.T) {
	d := dice(83)
	var found [2]int
	for range 1000 {
		s := store.New()
		for range d.roll(20) {
			switch d.roll(6) {
			case 0:
				s.Drop(s.Most())
			case 1:
				s.Drop(d.roll(s.Most() + 2))
			default:
				s.Put(d.bytes())
			}
		}
		files, twin := s.Files(), store.New()
		shuffled := slices.Clone(files)
		for i := range shuffled {
			k := d.roll(i + 1)
			shuffled[i], shuffled[k] = shuffled[k], shuffled[i]
		}
		for _, file := range shuffled {
			if e := twin.Copy(s, file); e != api.OK {
				t.Fatalf("Copy(%d) = %d", file, e)
			}
		}
		greatest := 0
		if len(files) > 0 {
			greatest = files[len(files)-1]
		}
		if twin.Most() != greatest || !slices.Equal(twin.Files(), files) {
			t.Fatalf("copied: %s; not %s", shown(t, twin), shown(t, s))
		}
		if greatest < s.Most() {
			found[0]++
			continue
		}
		found[1]++
		if a, b := shown(t, s), shown(t, twin); a != b {
			t.Fatalf("copied: %s; not %s", b, a)
		}
		a, _ := s.Put("x")
		b, _ := twin.Put("x")
		if a != b || a != greatest+1 {
			t.Fatalf("Put = %d, and %d; after %d", a, b, greatest)
		}
	}
	if found[0] < 100 || found[1] < 100 {
		t.Errorf("without, and with the greatest number: %v", found)
	}
}
