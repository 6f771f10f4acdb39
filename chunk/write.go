package chunk

import (
	"cirrus/api"
)

// addNumber appends the encoding of n, which is not negative.
func addNumber(b []byte, n int) []byte {
	for n > 127 {
		b = append(b, byte(128+n%128))
		n /= 128
	}
	return append(b, byte(n))
}

func addInt(b []byte, i int) []byte {
	if i < 0 {
		return addNumber(b, -2*i-1)
	}
	return addNumber(b, 2*i)
}

func addString(b []byte, s string) []byte {
	b = addNumber(b, len(s))
	return append(b, s...)
}

// addValue appends the encoding of a valid value.
func addValue(b []byte, v api.Value) []byte {
	b = append(b, byte(v.Kind))
	switch v.Kind {
	case api.KTruth:
		return append(b, byte(v.Int))
	case api.KInt:
		return addInt(b, v.Int)
	case api.KText:
		return addString(b, v.Text)
	case api.KList, api.KObject:
		return addItems(b, v)
	}
	return b
}

// addItems appends the items of a list, or the entries of an object, with their number.
func addItems(b []byte, v api.Value) []byte {
	b = addNumber(b, len(v.Items))
	for i, item := range v.Items {
		if v.Kind == api.KObject {
			b = addString(b, v.Keys[i])
		}
		b = addValue(b, item)
	}
	return b
}

// codeOf returns the encoding of a valid value. Values are equal if it is the same.
func codeOf(v api.Value) string {
	return string(addValue(nil, v))
}
