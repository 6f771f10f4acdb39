package expr

import (
	"cirrus/api"
	"cirrus/value"
	"cirrus/variant"
)

// Eval returns the value of e for the row with these values.
func Eval(cols []api.Column, vals []api.Value, e api.Expr) (api.Value, api.Errno) {
	r := row{cols, vals}
	if err := r.check(e); err != api.OK {
		return api.Value{}, err
	}
	return copiedValue(r.value(e)), api.OK
}

// Holds reports whether the value of e for the row with these values is the truth 1.
func Holds(cols []api.Column, vals []api.Value, e api.Expr) (bool, api.Errno) {
	r := row{cols, vals}
	if err := r.check(e); err != api.OK {
		return false, err
	}
	return isTrue(r.value(e)), api.OK
}

// row is a row's values, with their columns.
type row struct {
	cols []api.Column
	vals []api.Value
}

// check returns the first error that keeps e from having a value for the row.
func (r row) check(e api.Expr) api.Errno {
	if !r.fits() {
		return api.ErrForm
	}
	return Check(r.cols, e)
}

// fits reports whether there is a value for each column that fits it.
func (r row) fits() bool {
	if len(r.vals) != len(r.cols) {
		return false
	}
	for i, c := range r.cols {
		if !value.Fits(r.vals[i], c.Type) {
			return false
		}
	}
	return true
}

// value returns the value of e, which is valid and whose columns the row has. It may share memory with the row and with e.
func (r row) value(e api.Expr) api.Value {
	if e.Op == "col" {
		return r.vals[position(r.cols, e.Name)]
	}
	o, _ := operationOf(e.Op)
	operands := make([]api.Value, len(e.Kids))
	for i, kid := range e.Kids {
		operands[i] = r.value(kid)
	}
	return o.apply(e, operands...)
}

// copiedValue returns v in new memory, as every value is that is read at a path.
func copiedValue(v api.Value) api.Value {
	v, _, _ = variant.Get(v, nil)
	return v
}
