package value

import (
	"strconv"
	"strings"

	"cirrus/api"
)

// Text returns the textual form of v.
func Text(v api.Value) (string, api.Errno) {
	if !Valid(v) {
		return "", api.ErrForm
	}
	var b strings.Builder
	write(&b, v)
	return b.String(), api.OK
}

// write appends the textual form of a valid value.
func write(b *strings.Builder, v api.Value) {
	switch v.Kind {
	case api.KNull:
		b.WriteString("null")
	case api.KTruth:
		b.WriteString(strconv.FormatBool(v.Int == 1))
	case api.KInt:
		b.WriteString(strconv.Itoa(v.Int))
	case api.KText:
		writeQuoted(b, v.Text)
	case api.KList:
		b.WriteByte('[')
		writeItems(b, v)
		b.WriteByte(']')
	case api.KObject:
		b.WriteByte('{')
		writeItems(b, v)
		b.WriteByte('}')
	}
}

// writeItems appends the items of a list, or the entries of an object.
func writeItems(b *strings.Builder, v api.Value) {
	for i, item := range v.Items {
		if i > 0 {
			b.WriteByte(',')
		}
		if v.Kind == api.KObject {
			writeQuoted(b, v.Keys[i])
			b.WriteByte(':')
		}
		write(b, item)
	}
}

func writeQuoted(b *strings.Builder, s string) {
	b.WriteByte('"')
	for i := range len(s) {
		if s[i] == '"' || s[i] == '\\' {
			b.WriteByte('\\')
		}
		b.WriteByte(s[i])
	}
	b.WriteByte('"')
}
