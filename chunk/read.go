package chunk

import (
	"strings"

	"cirrus/api"
)

// reader reads bytes. It becomes bad, and remains so, where they end too early or something is too
// large. What it reads then means nothing, but all counts are 0, so that reading ends soon.
type reader struct {
	rest  string // what is not read yet
	bad   bool
	nodes int // of the value that is being read
}

// next reads a byte.
func (r *reader) next() byte {
	if r.rest == "" {
		r.bad = true
		return 0
	}
	c := r.rest[0]
	r.rest = r.rest[1:]
	return c
}

func (r *reader) number() int {
	n := 0
	for shift := 0; shift < 63; shift += 7 {
		c := r.next()
		n |= int(c&127) << shift
		if c < 128 {
			return n
		}
	}
	r.bad = true
	return 0
}

// count reads a number that is at most that large.
func (r *reader) count(most int) int {
	n := r.number()
	if n > most {
		r.bad = true
	}
	if r.bad {
		return 0
	}
	return n
}

func (r *reader) integer() int {
	n := r.number()
	if n%2 == 1 {
		return -(n / 2) - 1
	}
	return n / 2
}

func (r *reader) text() string {
	n := r.count(api.MaxText)
	if n > len(r.rest) {
		r.bad = true
		return ""
	}
	// A part of the bytes would keep all of them in memory.
	s := strings.Clone(r.rest[:n])
	r.rest = r.rest[n:]
	return s
}

// value reads a value, which need not be valid.
func (r *reader) value() api.Value {
	r.nodes = 0
	return r.node()
}

// node reads a value in the one that is being read. Their number is limited as they are read,
// and thereby the depth, as few bytes could otherwise lead very deep.
func (r *reader) node() api.Value {
	r.nodes++
	if r.nodes > api.MaxNodes {
		r.bad = true
		return api.Value{}
	}
	v := api.Value{Kind: int(r.next())}
	switch v.Kind {
	case api.KTruth:
		v.Int = int(r.next())
	case api.KInt:
		v.Int = r.integer()
	case api.KText:
		v.Text = r.text()
	case api.KList, api.KObject:
		r.items(&v)
	}
	return v
}

// items reads the items of a list, or the entries of an object.
func (r *reader) items(v *api.Value) {
	for range r.count(api.MaxNodes) {
		if v.Kind == api.KObject {
			key := r.text()
			v.Keys = append(v.Keys, key)
		}
		item := r.node()
		v.Items = append(v.Items, item)
	}
}
