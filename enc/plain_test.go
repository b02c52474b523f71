package enc_test

import (
	"encoding/binary"
	"math"
	"math/rand"
	"slices"
	"strings"
	"testing"

	"shredcol/api"
	"shredcol/enc"
)

// plainOf: as P30 says, by the library.
func plainOf(kind int, l []api.Value) string {
	var b []byte
	if kind == api.Bool {
		b = make([]byte, (len(l)+7)/8)
	}
	for i, v := range l {
		switch kind {
		case api.Bool:
			b[i/8] += byte(v.N) << (i % 8)
		case api.Int:
			b = binary.LittleEndian.AppendUint32(b, uint32(v.N))
		case api.Long, api.Double:
			b = binary.LittleEndian.AppendUint64(b, uint64(v.N))
		case api.Bytes:
			b = append(binary.AppendUvarint(b, uint64(len(v.S))), v.S...)
		}
	}
	return string(b)
}

func TestP30PlainKnown(t *testing.T) {
	for _, c := range []struct {
		kind int
		l    []api.Value
		want string
	}{
		{api.Bool, numbers(api.Bool, 1, 0, 1), "\x05"}, {api.Bool, numbers(api.Bool, 0, 0, 0, 0, 0, 0, 0, 1, 1), "\x80\x01"}, {api.Bool, numbers(api.Bool, 1, 1, 1, 1, 1, 1, 1, 1), "\xff"},
		{api.Int, numbers(api.Int, 1, -2), "\x01\x00\x00\x00\xfe\xff\xff\xff"}, {api.Int, numbers(api.Int, math.MinInt32, math.MaxInt32), "\x00\x00\x00\x80\xff\xff\xff\x7f"}, {api.Int, numbers(api.Int, 0x01020304), "\x04\x03\x02\x01"},
		{api.Long, numbers(api.Long, 1, -2), "\x01\x00\x00\x00\x00\x00\x00\x00\xfe\xff\xff\xff\xff\xff\xff\xff"}, {api.Long, numbers(api.Long, math.MinInt64), "\x00\x00\x00\x00\x00\x00\x00\x80"},
		{api.Double, numbers(api.Double, int64(math.Float64bits(1))), "\x00\x00\x00\x00\x00\x00\xf0\x3f"},
		{api.Bytes, texts("ab", "", "\x00"), "\x02ab\x00\x01\x00"},
	} {
		s, err := enc.Plain(c.kind, c.l)
		if s != c.want || err != nil {
			t.Errorf("Plain(%d, %v) = %q, %v, want %q", c.kind, c.l, s, err, c.want)
		}
		if l, err := enc.ReadPlain(c.kind, c.want, len(c.l)); !slices.Equal(l, c.l) || err != nil {
			t.Errorf("ReadPlain(%d, %q) = %v, %v", c.kind, c.want, l, err)
		}
	}
	for _, kind := range kinds {
		if s, err := enc.Plain(kind, nil); s != "" || err != nil {
			t.Errorf("Plain of no values, kind %d: %q, %v", kind, s, err)
		}
		if l, err := enc.ReadPlain(kind, "", 0); len(l) != 0 || err != nil {
			t.Errorf("ReadPlain of no values, kind %d: %v, %v", kind, l, err)
		}
	}
}

func TestP30PlainByTheRule(t *testing.T) {
	r := rand.New(rand.NewSource(30))
	for _, kind := range kinds {
		for _, l := range lists(r, kind) {
			if s, err := enc.Plain(kind, l); s != plainOf(kind, l) || err != nil {
				t.Fatalf("Plain(%d, %v) = %q, %v", kind, l, s, err)
			}
		}
	}
}

func TestP30NoPlainTexts(t *testing.T) {
	long := strings.Repeat("x", api.MaxBytes+1)
	for _, c := range []struct {
		kind, n int
		s       string
	}{
		{api.Bool, 3, "\x0d"}, {api.Bool, 1, "\x02"}, {api.Bool, 7, "\x80"}, {api.Bool, 9, "\xff\x03"}, // what is left over is not 0
		{api.Bool, 1, ""}, {api.Bool, 9, "\x01"}, {api.Bool, 8, "\x01\x00"}, {api.Bool, 0, "\x00"}, {api.Bool, 1, "\x01\x00"},
		{api.Int, 1, "\x01\x00\x00"}, {api.Int, 1, ""}, {api.Int, 1, "\x01\x00\x00\x00\x00"}, {api.Int, 2, "\x01\x00\x00\x00"}, {api.Int, 1, "\x01\x00\x00\x00\x01\x00\x00\x00"}, {api.Int, 0, "\x00"},
		{api.Long, 1, "\x01\x00\x00\x00"}, {api.Long, 1, "\x01\x00\x00\x00\x00\x00\x00"}, {api.Long, 1, "\x01\x00\x00\x00\x00\x00\x00\x00\x00"}, {api.Double, 1, "\x01\x00\x00\x00\x00\x00\x00"}, {api.Double, 0, "\x00\x00\x00\x00\x00\x00\x00\x00"},
		{api.Bytes, 1, "\x01ab"}, {api.Bytes, 1, "\x02a"}, {api.Bytes, 1, ""}, {api.Bytes, 2, "\x01a"}, {api.Bytes, 0, "\x00"}, {api.Bytes, 1, "\x81\x00a"}, {api.Bytes, 1, "\x80"},
		{api.Bytes, 1, "\x65" + long}, {api.Bytes, 2, "\x00\x65" + long}, // longer than a value may be
		{api.Bytes, 1, "\xff\xff\xff\xff\xff\xff\xff\xff\xff\x01"}, {api.Int, api.MaxEntries, "\x00"}, {api.Bytes, api.MaxEntries, "\x00"},
	} {
		if l, err := enc.ReadPlain(c.kind, c.s, c.n); l != nil || err != api.ErrText {
			t.Errorf("ReadPlain(%d, %q, %d) = %v, %v", c.kind, c.s, c.n, l, err)
		}
	}
}

// TestP30EveryNumberOfBits: of all lengths, with each bit that is left over turned.
func TestP30EveryNumberOfBits(t *testing.T) {
	for n := range 20 {
		l := of(api.Value{Kind: api.Bool, N: 1}, n)
		s, err := enc.Plain(api.Bool, l)
		if err != nil || len(s) != (n+7)/8 {
			t.Fatalf("%d bits: %q, %v", n, s, err)
		}
		for bit := n; bit < 8*len(s); bit++ {
			b := []byte(s)
			b[bit/8] ^= 1 << (bit % 8)
			if l, err := enc.ReadPlain(api.Bool, string(b), n); l != nil || err != api.ErrText {
				t.Errorf("%d bits, bit %d turned: %v, %v", n, bit, l, err)
			}
		}
	}
}
