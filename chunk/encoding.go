package chunk

import (
	"cirrus/api"
	"cirrus/value"
)

// The numbers of the encodings: those of api.
const (
	plain = api.EPlain + iota
	runs
	dict
	delta
)

// encoding is a way to write lists of values.
type encoding interface {
	// add appends the bytes of valid values, to which the encoding is applicable.
	add(b []byte, l []api.Value) []byte
	// read returns the values whose bytes come next. They mean nothing if the bytes
	// are not those that add writes; there are never more of them than a list may have.
	read(r *reader) []api.Value
}

// choose returns the encoding with that number, and whether there is one.
func choose(enc int) (encoding, bool) {
	switch enc {
	case plain:
		return plainCode{}, true
	case runs:
		return runsCode{}, true
	case dict:
		return dictCode{}, true
	case delta:
		return deltaCode{}, true
	}
	return nil, false
}

// plainCode writes one value after the other.
type plainCode struct{}

func (plainCode) add(b []byte, l []api.Value) []byte {
	b = addNumber(b, len(l))
	for _, v := range l {
		b = addValue(b, v)
	}
	return b
}

func (plainCode) read(r *reader) []api.Value {
	var l []api.Value
	for range r.count(api.MaxRows) {
		v := r.value()
		l = append(l, v)
	}
	return l
}

// runsCode writes values that are repeated in place once.
type runsCode struct{}

// run is equal values in place: how many, and the bytes of each.
type run struct {
	long int
	code string
}

func (runsCode) add(b []byte, l []api.Value) []byte {
	all := runsOf(l)
	b = addNumber(b, len(all))
	for _, one := range all {
		b = addNumber(b, one.long)
		b = append(b, one.code...)
	}
	return b
}

// runsOf returns the runs of l, each as long as possible.
func runsOf(l []api.Value) []run {
	var all []run
	for _, v := range l {
		code := codeOf(v)
		last := len(all) - 1
		if last >= 0 && all[last].code == code {
			all[last].long++
		} else {
			all = append(all, run{long: 1, code: code})
		}
	}
	return all
}

func (runsCode) read(r *reader) []api.Value {
	var l []api.Value
	for range r.count(api.MaxRows) {
		long := r.count(api.MaxRows - len(l))
		v := r.value()
		for range long {
			l = append(l, copied(v))
		}
	}
	return l
}

// dictCode writes each different value once, and for each value which one it is.
type dictCode struct{}

func (dictCode) add(b []byte, l []api.Value) []byte {
	distinct, _ := value.Distinct(l)
	places := map[string]int{}
	b = addNumber(b, len(distinct))
	for i, v := range distinct {
		code := codeOf(v)
		places[code] = i
		b = append(b, code...)
	}
	b = addNumber(b, len(l))
	for _, v := range l {
		b = addNumber(b, places[codeOf(v)])
	}
	return b
}

func (dictCode) read(r *reader) []api.Value {
	distinct := plainCode{}.read(r)
	var l []api.Value
	for range r.count(api.MaxRows) {
		i := r.count(len(distinct) - 1)
		if r.bad {
			return nil
		}
		l = append(l, copied(distinct[i]))
	}
	return l
}

// deltaCode writes by how much each int differs from the one before it, the first one from 0.
type deltaCode struct{}

func (deltaCode) add(b []byte, l []api.Value) []byte {
	b = addNumber(b, len(l))
	before := 0
	for _, v := range l {
		b = addInt(b, v.Int-before)
		before = v.Int
	}
	return b
}

func (deltaCode) read(r *reader) []api.Value {
	var l []api.Value
	n := 0
	for range r.count(api.MaxRows) {
		n += r.integer()
		l = append(l, api.Value{Kind: api.KInt, Int: n})
	}
	return l
}

// copied returns v with memory of its own, as the values of a result share none.
func copied(v api.Value) api.Value {
	v.Keys = append([]string(nil), v.Keys...)
	items := v.Items
	v.Items = nil
	for _, item := range items {
		v.Items = append(v.Items, copied(item))
	}
	return v
}
