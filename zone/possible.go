package zone

import (
	"cirrus/api"
)

// possible is the possible values of an expression: exactly one, all between two, or unbounded ones.
type possible interface {
	span() api.Span
}

// exactly is one value, also null.
type exactly struct {
	val api.Value
}

// between is the values from min to max, which are not null, and perhaps null.
type between struct {
	min, max api.Value
	null     bool
}

// unbounded is values that are not null, of which no more is known, and perhaps null.
type unbounded struct {
	null bool
}

func (p exactly) span() api.Span {
	if isNull(p.val) {
		return api.Span{Null: true}
	}
	return api.Span{Some: true, Known: true, Min: p.val, Max: p.val}
}

func (p between) span() api.Span {
	return api.Span{Null: p.null, Some: true, Known: true, Min: p.min, Max: p.max}
}

func (p unbounded) span() api.Span {
	return api.Span{Null: p.null, Some: true}
}

// ofSpan returns the possible values that s describes.
func ofSpan(s api.Span) possible {
	switch {
	case !s.Some:
		return exactly{}
	case !s.Known:
		return unbounded{s.Null}
	case !s.Null && equal(s.Min, s.Max):
		return exactly{s.Min}
	}
	return between{s.Min, s.Max, s.Null}
}

// ofStat returns the possible values by the statistics.
func ofStat(s api.Stat) possible {
	return ofSpan(api.Span{Null: s.Nulls != 0, Some: s.Nulls != s.Rows, Known: true, Min: s.Min, Max: s.Max})
}

// ofTruths returns the possible values of what can be these truths, or null.
func ofTruths(z api.Zone) possible {
	return ofSpan(api.Span{Null: z.Null, Some: z.True || z.False, Known: true, Min: truth(!z.False), Max: truth(z.True)})
}

// truths returns the possible truths by the possible values.
func truths(p possible) api.Zone {
	switch p := p.(type) {
	case exactly:
		return api.Zone{True: equal(p.val, truth(true)), False: equal(p.val, truth(false)), Null: p.val.Kind != api.KTruth}
	case between:
		null := p.null || p.min.Kind != api.KTruth || p.max.Kind != api.KTruth
		return api.Zone{True: p.has(truth(true)), False: p.has(truth(false)), Null: null}
	}
	return api.Zone{True: true, False: true, Null: true}
}

// has reports whether v lies within the bounds.
func (p between) has(v api.Value) bool {
	return !before(v, p.min) && !before(p.max, v)
}

// union returns the span of what is in one of two spans.
func union(a, b api.Span) api.Span {
	s := a
	switch {
	case !a.Some:
		s = b
	case b.Some:
		s = api.Span{Some: true, Known: a.Known && b.Known, Min: least(a.Min, b.Min), Max: greatest(a.Max, b.Max)}
	}
	s.Null = a.Null || b.Null
	return s
}

func least(a, b api.Value) api.Value {
	if before(b, a) {
		return b
	}
	return a
}

func greatest(a, b api.Value) api.Value {
	if before(a, b) {
		return b
	}
	return a
}

func truth(b bool) api.Value {
	if b {
		return api.Value{Kind: api.KTruth, Int: 1}
	}
	return api.Value{Kind: api.KTruth}
}
