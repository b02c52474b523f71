package enc

import (
	"shredcol/api"
	"shredcol/bitrun"
	"shredcol/wire"
)

// Plain values.
func Plain(kind int, l []api.Value) (string, error) {
	if err := check(kind, l); err != nil {
		return "", err
	}
	switch kind {
	case api.Bool:
		return plainBools(l)
	case api.Bytes:
		return plainTexts(l), nil
	}
	return plainNumbers(l, sizeOf(kind)), nil
}

// ReadPlain reads values.
func ReadPlain(kind int, s string, n int) ([]api.Value, error) {
	if err := checkCount(kind, n); err != nil {
		return nil, err
	}
	switch kind {
	case api.Bool:
		return readBools(s, n)
	case api.Bytes:
		return readTexts(s, n)
	}
	return readNumbers(kind, s, n)
}

// sizeOf: bytes of a number of the kind.
func sizeOf(kind int) int {
	if kind == api.Int {
		return 4
	}
	return 8
}

func plainBools(l []api.Value) (string, error) {
	bits := make([]int, len(l))
	for i, v := range l {
		bits[i] = int(v.N)
	}
	return bitrun.Pack(bits, 1)
}

func readBools(s string, n int) ([]api.Value, error) {
	if len(s) != (n+7)/8 {
		return nil, api.ErrText
	}
	if rest := n % 8; rest > 0 && s[len(s)-1]>>rest != 0 {
		return nil, api.ErrText
	}
	bits, err := bitrun.Unpack(s, 1, n)
	if err != nil {
		return nil, err
	}
	l := make([]api.Value, n)
	for i, bit := range bits {
		l[i] = api.Value{Kind: api.Bool, N: int64(bit)}
	}
	return l, nil
}

// plainNumbers: not by wire.Fixed, which has no room for the bits that a number
// below 0 has above its size.
func plainNumbers(l []api.Value, size int) string {
	b := make([]byte, 0, size*len(l))
	for _, v := range l {
		for i := range size {
			b = append(b, byte(v.N>>(8*i)))
		}
	}
	return string(b)
}

func readNumbers(kind int, s string, n int) ([]api.Value, error) {
	size := sizeOf(kind)
	if len(s) != size*n {
		return nil, api.ErrText
	}
	l := make([]api.Value, n)
	for i := range l {
		bits, err := wire.ReadFixed(s[size*i:], size)
		if err != nil {
			return nil, err
		}
		l[i] = api.Value{Kind: kind, N: signed(bits, size)}
	}
	return l, nil
}

// signed: the number whose two's complement of so many bytes this is.
func signed(bits uint64, size int) int64 {
	above := 64 - 8*size
	return int64(bits<<above) >> above
}

func plainTexts(l []api.Value) string {
	var b []byte
	for _, v := range l {
		b = append(b, wire.Text(v.S)...)
	}
	return string(b)
}

func readTexts(s string, n int) ([]api.Value, error) {
	l := make([]api.Value, n)
	for i := range l {
		text, used, err := wire.ReadText(s)
		if err != nil {
			return nil, err
		}
		if len(text) > api.MaxBytes {
			return nil, api.ErrText
		}
		l[i] = api.Value{Kind: api.Bytes, S: text}
		s = s[used:]
	}
	if s != "" {
		return nil, api.ErrText
	}
	return l, nil
}
