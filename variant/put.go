package variant

import (
	"slices"

	"cirrus/api"
	"cirrus/value"
)

// Put returns v with x at the path p. Where the path leads through null, or through nothing, it makes a list or an object.
// ErrType, ErrArg: there p leads through something else, or beyond the end of a list; ErrSize: the result would not be valid.
func Put(v api.Value, p []api.Step, x api.Value) (api.Value, api.Errno) {
	if !value.Valid(v) || !Valid(p) || !value.Valid(x) {
		return api.Value{}, api.ErrForm
	}
	made := copied(v)
	if e := put(&made, p, copied(x)); e != api.OK {
		return api.Value{}, e
	}
	if !value.Valid(made) {
		return api.Value{}, api.ErrSize
	}
	return made, api.OK
}

// Remove returns v without the item at the path p. ErrArg: p is empty; ErrNone: there is nothing.
func Remove(v api.Value, p []api.Step) (api.Value, api.Errno) {
	if !value.Valid(v) || !Valid(p) {
		return api.Value{}, api.ErrForm
	}
	if len(p) == 0 {
		return api.Value{}, api.ErrArg
	}
	made := copied(v)
	if !remove(&made, p) {
		return api.Value{}, api.ErrNone
	}
	return made, api.OK
}

// put lays x at the path p of v.
func put(v *api.Value, p []api.Step, x api.Value) api.Errno {
	if len(p) == 0 {
		*v = x
		return api.OK
	}
	kind := holder(p[0])
	if v.Kind == api.KNull {
		v.Kind = kind
	}
	if v.Kind != kind {
		return api.ErrType
	}
	if p[0].Index > len(v.Items) {
		return api.ErrArg
	}
	return put(room(v, p[0]), p[1:], x)
}

// room returns the item of v that s selects; if there is none, a null that it inserts there.
// v is of the kind that has such items, and an index is at most its length.
func room(v *api.Value, s api.Step) *api.Value {
	i, there := find(*v, s)
	if !there {
		v.Items = slices.Insert(v.Items, i, api.Value{})
		if v.Kind == api.KObject {
			v.Keys = slices.Insert(v.Keys, i, s.Key)
		}
	}
	return &v.Items[i]
}

// remove takes the item at the path p, which is not empty, out of v, and reports whether there was one.
func remove(v *api.Value, p []api.Step) bool {
	i, there := find(*v, p[0])
	if !there {
		return false
	}
	if len(p) > 1 {
		return remove(&v.Items[i], p[1:])
	}
	v.Items = without(v.Items, i)
	if v.Kind == api.KObject {
		v.Keys = without(v.Keys, i)
	}
	return true
}

// without returns l without its element i, in new memory: nil if there is no other one, as in a copy.
func without[T any](l []T, i int) []T {
	return append(append([]T(nil), l[:i]...), l[i+1:]...)
}
