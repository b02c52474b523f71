package data

import (
	"strconv"

	"shredcol/api"
)

const (
	noneWord  = "null"
	trueWord  = "true"
	falseWord = "false"
	digits16  = "0123456789abcdef"
)

// Text of a record.
func Text(root api.Node, d api.Datum) (string, error) {
	if err := Check(root, d); err != nil {
		return "", err
	}
	return string(appendNode(nil, root, d)), nil
}

func appendNode(b []byte, n api.Node, d api.Datum) []byte {
	switch {
	case n.Rep == api.Repeated:
		return appendList(b, n, d.L)
	case d.None:
		return append(b, noneWord...)
	}
	return appendOne(b, n, d)
}

func appendList(b []byte, n api.Node, l []api.Datum) []byte {
	b = append(b, '[')
	for i, element := range l {
		if i > 0 {
			b = append(b, ',')
		}
		b = appendOne(b, n, element)
	}
	return append(b, ']')
}

// appendOne as if the node were Required.
func appendOne(b []byte, n api.Node, d api.Datum) []byte {
	if n.Kind == api.Group {
		return appendGroup(b, n, d.F)
	}
	return appendValue(b, d.V)
}

func appendGroup(b []byte, n api.Node, fields []api.Datum) []byte {
	for i, in := range n.Sub {
		b = append(b, aheadOf(i)...)
		b = append(b, in.Name...)
		b = append(b, ':')
		b = appendNode(b, in, fields[i])
	}
	return append(b, '}')
}

// aheadOf a group's field, of which there is at least one.
func aheadOf(field int) string {
	if field == 0 {
		return "{"
	}
	return ","
}

func appendValue(b []byte, v api.Value) []byte {
	switch v.Kind {
	case api.Bool:
		return append(b, boolWord(v)...)
	case api.Bytes:
		return appendBytes(b, v.S)
	case api.Double:
		return appendDigits(append(b, 'x'), uint64(v.N), 16)
	}
	return strconv.AppendInt(b, v.N, 10)
}

func boolWord(v api.Value) string {
	if v.N == 0 {
		return falseWord
	}
	return trueWord
}

func appendBytes(b []byte, s string) []byte {
	b = append(b, '"')
	for i := range len(s) {
		if standsAsItIs(s[i]) {
			b = append(b, s[i])
		} else {
			b = appendDigits(append(b, '\\'), uint64(s[i]), 2)
		}
	}
	return append(b, '"')
}

func standsAsItIs(c byte) bool { return c >= 32 && c <= 126 && c != '"' && c != '\\' }

// appendDigits: the lowest so many digits of 16.
func appendDigits(b []byte, n uint64, many int) []byte {
	for i := many - 1; i >= 0; i-- {
		b = append(b, digits16[n>>(4*i)&15])
	}
	return b
}
