// Package value is layer 1: see shared/doc/01-value.md. It compares, formats and parses values.
package value

import (
	"cirrus/api"
)

// Valid reports whether v is valid.
func Valid(v api.Value) bool {
	_, _, ok := measure(v)
	return ok
}

// Size returns the number of nodes of v and its depth.
func Size(v api.Value) (int, int, api.Errno) {
	nodes, depth, ok := measure(v)
	if !ok {
		return 0, 0, api.ErrForm
	}
	return nodes, depth, api.OK
}

// Fits reports whether v fits a column of type t.
func Fits(v api.Value, t int) bool {
	if !Valid(v) {
		return false
	}
	switch t {
	case api.TTruth:
		return v.Kind == api.KNull || v.Kind == api.KTruth
	case api.TInt:
		return v.Kind == api.KNull || v.Kind == api.KInt
	case api.TText:
		return v.Kind == api.KNull || v.Kind == api.KText
	}
	return t == api.TVariant
}

// Number returns the int n; ErrArg unless it is within the limit.
func Number(n int) (api.Value, api.Errno) {
	if !within(n) {
		return api.Value{}, api.ErrArg
	}
	return api.Value{Kind: api.KInt, Int: n}, api.OK
}

// Word reports whether s is a word.
func Word(s string) bool {
	if s == "" || len(s) > api.MaxName || !small(s[0]) {
		return false
	}
	for i := range len(s) {
		if !small(s[i]) && !digit(s[i]) && s[i] != '_' {
			return false
		}
	}
	return true
}

// measure returns the number of nodes of v and its depth, and whether v is valid.
func measure(v api.Value) (nodes, depth int, ok bool) {
	var m meter
	ok = m.add(v, 1)
	return m.nodes, m.depth, ok
}

// meter counts the nodes of a value while they are visited.
type meter struct {
	nodes, depth int
}

// add visits v, which lies at that depth, and reports whether it is valid there.
// It stops at the first node beyond a limit, so that it also ends for a value that contains itself.
func (m *meter) add(v api.Value, depth int) bool {
	m.nodes++
	m.depth = max(m.depth, depth)
	if m.nodes > api.MaxNodes || m.depth > api.MaxDepth || !sound(v) {
		return false
	}
	for _, item := range v.Items {
		if !m.add(item, depth+1) {
			return false
		}
	}
	return true
}

// sound reports whether v is valid, its items aside.
func sound(v api.Value) bool {
	single := len(v.Items) == 0 && len(v.Keys) == 0
	switch v.Kind {
	case api.KNull:
		return v.Int == 0 && v.Text == "" && single
	case api.KTruth:
		return (v.Int == 0 || v.Int == 1) && v.Text == "" && single
	case api.KInt:
		return within(v.Int) && v.Text == "" && single
	case api.KText:
		return v.Int == 0 && printable(v.Text) && single
	case api.KList:
		return v.Int == 0 && v.Text == "" && len(v.Keys) == 0
	case api.KObject:
		return v.Int == 0 && v.Text == "" && len(v.Keys) == len(v.Items) && proper(v.Keys)
	}
	return false
}

// proper reports whether keys can be those of an object.
func proper(keys []string) bool {
	for i, key := range keys {
		if !printable(key) || i > 0 && keys[i-1] >= key {
			return false
		}
	}
	return true
}

// within reports whether n is within the limit of ints.
func within(n int) bool {
	return -api.MaxInt <= n && n <= api.MaxInt
}

// printable reports whether s can be a text or a key.
func printable(s string) bool {
	if len(s) > api.MaxText {
		return false
	}
	for i := range len(s) {
		if !visible(s[i]) {
			return false
		}
	}
	return true
}

func visible(c byte) bool { return 32 <= c && c <= 126 }

func small(c byte) bool { return 'a' <= c && c <= 'z' }

func digit(c byte) bool { return '0' <= c && c <= '9' }
