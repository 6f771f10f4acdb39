package variant

import (
	"cirrus/api"
	"cirrus/value"
)

// Merge returns a with the changes that b describes; ErrSize if the result would not be valid.
func Merge(a, b api.Value) (api.Value, api.Errno) {
	if !value.Valid(a) || !value.Valid(b) {
		return api.Value{}, api.ErrForm
	}
	made := merge(a, b)
	if !value.Valid(made) {
		return api.Value{}, api.ErrSize
	}
	return made, api.OK
}

// Patch returns what must be merged into a to make it b. ErrSize: that would not be valid; ErrArg: there is no such value.
func Patch(a, b api.Value) (api.Value, api.Errno) {
	if !value.Valid(a) || !value.Valid(b) {
		return api.Value{}, api.ErrForm
	}
	p := patch(a, b)
	if !value.Valid(p) {
		return api.Value{}, api.ErrSize
	}
	if !equal(merge(a, p), b) {
		return api.Value{}, api.ErrArg
	}
	return p, api.OK
}

// merge returns a with the changes that b describes.
func merge(a, b api.Value) api.Value {
	if b.Kind != api.KObject {
		return copied(b)
	}
	made := api.Value{Kind: api.KObject}
	if a.Kind == api.KObject {
		made = copied(a)
	}
	for i, change := range b.Items {
		step := stepTo(b, i)
		if change.Kind == api.KNull {
			remove(&made, []api.Step{step})
			continue
		}
		item := room(&made, step)
		*item = merge(*item, change)
	}
	return made
}

// patch returns what must be merged into a to make it b, if anything does.
func patch(a, b api.Value) api.Value {
	if a.Kind != api.KObject || b.Kind != api.KObject {
		return copied(b)
	}
	p := api.Value{Kind: api.KObject}
	for _, key := range a.Keys {
		if _, there := find(b, stepOf(key)); !there {
			room(&p, stepOf(key))
		}
	}
	for i, item := range b.Items {
		step := stepTo(b, i)
		old, there := itemAt(a, step)
		if there && equal(old, item) {
			continue
		}
		change := room(&p, step)
		*change = patch(old, item)
	}
	return p
}

// itemAt returns the item of v that s selects and true; null and false if there is none.
func itemAt(v api.Value, s api.Step) (api.Value, bool) {
	i, there := find(v, s)
	if !there {
		return api.Value{}, false
	}
	return v.Items[i], true
}
