package part

import (
	"cirrus/api"
	"cirrus/chunk"
)

// mark is what the bytes of every partition begin with.
const mark = "cir1"

// pack returns the bytes of the partition with valid rows.
func pack(r api.Rows) string {
	b := addNumber([]byte(mark), len(r.Cols))
	for _, c := range r.Cols {
		b = addString(b, c.Name)
		b = append(b, byte(c.Type))
	}
	ids, _ := chunk.Pack(numbers(r), api.EDelta)
	b = addString(b, ids)
	for i := range r.Cols {
		enc, code, _ := chunk.Best(values(r, i))
		b = append(b, byte(enc))
		b = addString(b, code)
	}
	return string(addSum(b))
}

// addNumber appends the encoding of n, which is not negative.
func addNumber(b []byte, n int) []byte {
	code, _ := chunk.Number(n)
	return append(b, code...)
}

// addString appends the number of bytes of s, and these.
func addString(b []byte, s string) []byte {
	b = addNumber(b, len(s))
	return append(b, s...)
}

// addSum appends the checksum of all that is there.
func addSum(b []byte) []byte {
	sum := chunk.Sum(string(b))
	return append(b, byte(sum>>24), byte(sum>>16), byte(sum>>8), byte(sum))
}
