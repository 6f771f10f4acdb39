package value

import (
	"cmp"
	"slices"

	"cirrus/api"
)

// Compare returns -1, 0 or 1 if a comes before b, is equal to it, or comes after it.
func Compare(a, b api.Value) (int, api.Errno) {
	if !Valid(a) || !Valid(b) {
		return 0, api.ErrForm
	}
	return order(a, b), api.OK
}

// Sort returns the values of l in their order.
func Sort(l []api.Value) ([]api.Value, api.Errno) {
	for _, v := range l {
		if !Valid(v) {
			return nil, api.ErrForm
		}
	}
	sorted := copies(l)
	slices.SortFunc(sorted, order)
	return sorted, api.OK
}

// Distinct returns the values of l in their order, each one once.
func Distinct(l []api.Value) ([]api.Value, api.Errno) {
	sorted, e := Sort(l)
	return slices.CompactFunc(sorted, equal), e
}

// order compares valid values.
func order(a, b api.Value) int {
	// The numbers of the kinds rise in the order of the kinds.
	if c := cmp.Compare(a.Kind, b.Kind); c != 0 {
		return c
	}
	switch a.Kind {
	case api.KTruth, api.KInt:
		return cmp.Compare(a.Int, b.Int)
	case api.KText:
		return cmp.Compare(a.Text, b.Text)
	}
	return orderItems(a, b)
}

// orderItems compares two values of one kind by their items, and by the keys of these if they have some.
func orderItems(a, b api.Value) int {
	for i := range min(len(a.Items), len(b.Items)) {
		if a.Kind == api.KObject && a.Keys[i] != b.Keys[i] {
			return cmp.Compare(a.Keys[i], b.Keys[i])
		}
		if c := order(a.Items[i], b.Items[i]); c != 0 {
			return c
		}
	}
	return cmp.Compare(len(a.Items), len(b.Items))
}

func equal(a, b api.Value) bool { return order(a, b) == 0 }

// copies returns values that share no slice with those of l or with one another.
// What is empty becomes nil, so that equal values have the same copy.
func copies(l []api.Value) []api.Value {
	if len(l) == 0 {
		return nil
	}
	made := make([]api.Value, len(l))
	for i, v := range l {
		v.Items = copies(v.Items)
		v.Keys = append([]string(nil), v.Keys...)
		made[i] = v
	}
	return made
}
