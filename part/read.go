package part

import (
	"strings"

	"cirrus/api"
	"cirrus/chunk"
)

// reader reads bytes. It becomes bad, and remains so, where they cannot be those of a partition.
// What it reads then means nothing.
type reader struct {
	rest string // what is not read yet
	bad  bool
}

// rows reads rows, which need not be those of a partition, up to the checksum.
func (r *reader) rows() api.Rows {
	r.skip(mark)
	n := r.number()
	if n > api.MaxCols {
		r.bad = true
	}
	if r.bad {
		return api.Rows{}
	}
	var rows api.Rows
	for range n {
		// A part of the bytes would keep all of them in memory.
		name := strings.Clone(r.piece())
		kind := r.next()
		rows.Cols = append(rows.Cols, api.Column{Name: name, Type: int(kind)})
	}
	for _, id := range r.values(api.EDelta) {
		rows.Rows = append(rows.Rows, api.Row{Id: id.Int})
	}
	for range n {
		enc := r.next()
		r.give(rows.Rows, r.values(int(enc)))
	}
	return rows
}

// give appends one of the values to each row.
func (r *reader) give(rows []api.Row, vals []api.Value) {
	if len(vals) != len(rows) {
		r.bad = true
		return
	}
	for i, v := range vals {
		rows[i].Vals = append(rows[i].Vals, v)
	}
}

// values reads values in that encoding, after the number of their bytes.
func (r *reader) values(enc int) []api.Value {
	l, e := chunk.Unpack(r.piece(), enc)
	if e != api.OK {
		r.bad = true
	}
	return l
}

// piece reads as many bytes as a number says that stands before them.
func (r *reader) piece() string {
	n := r.number()
	if n > len(r.rest) {
		r.bad = true
		return ""
	}
	s := r.rest[:n]
	r.rest = r.rest[n:]
	return s
}

// number reads a number of at most three bytes: no column of a partition has so many bytes that it needs more.
func (r *reader) number() int {
	n := 0
	for i := range 3 {
		c := r.next()
		n += int(c%128) << (7 * i)
		if c < 128 {
			return n
		}
	}
	r.bad = true
	return 0
}

// next reads a byte.
func (r *reader) next() byte {
	if r.rest == "" {
		r.bad = true
		return 0
	}
	c := r.rest[0]
	r.rest = r.rest[1:]
	return c
}

// skip reads s.
func (r *reader) skip(s string) {
	rest, ok := strings.CutPrefix(r.rest, s)
	if !ok {
		r.bad = true
	}
	r.rest = rest
}
