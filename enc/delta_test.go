package enc_test

import (
	"math"
	"math/big"
	"math/rand"
	"slices"
	"strings"
	"testing"

	"shredcol/api"
	"shredcol/enc"
	"shredcol/wire"
)

// wrapped: a number as 64 bits with a sign, whatever runs over.
func wrapped(n *big.Int) int64 {
	var all big.Int
	all.SetBit(&all, 64, 1)
	n = new(big.Int).Mod(n, &all)
	return int64(n.Uint64())
}

// rowOf: a number as a row of '0' and '1', its lowest bit first.
func rowOf(n *big.Int, width int) string {
	b := make([]byte, width)
	for i := range b {
		b[i] = '0' + byte(n.Bit(i))
	}
	return string(b)
}

// bytesOfRow: each byte is filled from its lowest bit on.
func bytesOfRow(row string) string {
	b := make([]byte, (len(row)+7)/8)
	for i := range len(row) {
		b[i/8] += (row[i] - '0') << (i % 8)
	}
	return string(b)
}

// deltaOf: as P31 says, by numbers that run over nowhere, and rows of bits.
func deltaOf(l []api.Value) string {
	if len(l) == 0 {
		return ""
	}
	var diffs []int64
	for i := 1; i < len(l); i++ {
		diffs = append(diffs, wrapped(new(big.Int).Sub(big.NewInt(l[i].N), big.NewInt(l[i-1].N))))
	}
	out := wire.Varint(l[0].N)
	for part := range slices.Chunk(diffs, 32) {
		sorted := slices.Sorted(slices.Values(part))
		least := big.NewInt(sorted[0])
		width := new(big.Int).Sub(big.NewInt(sorted[len(sorted)-1]), least).BitLen()
		out += wire.Varint(sorted[0]) + string([]byte{byte(width)})
		row := ""
		for _, d := range part {
			row += rowOf(new(big.Int).Sub(big.NewInt(d), least), width)
		}
		out += bytesOfRow(row)
	}
	return out
}

// readDeltaOf: as P31 says, rule by rule; ok: whether it is such a text.
func readDeltaOf(kind int, s string, n int) (l []api.Value, ok bool) {
	if n == 0 {
		return nil, s == ""
	}
	last, used, err := wire.ReadVarint(s)
	if err != nil {
		return nil, false
	}
	s = s[used:]
	l = numbers(kind, last)
	for len(l) < n {
		many := min(32, n-len(l))
		least, used, err := wire.ReadVarint(s)
		if err != nil || used == len(s) || s[used] > 64 {
			return nil, false
		}
		width := int(s[used])
		s = s[used+1:]
		size := (many*width + 7) / 8
		if len(s) < size {
			return nil, false
		}
		var bits big.Int
		for i := range 8 * size {
			bits.SetBit(&bits, i, uint(s[i/8]>>(i%8)&1))
		}
		s = s[size:]
		most, zero := 0, false
		for range many {
			var above, rest big.Int
			above.And(&bits, new(big.Int).Sub(new(big.Int).Lsh(big.NewInt(1), uint(width)), big.NewInt(1)))
			bits.Set(rest.Rsh(&bits, uint(width)))
			most = max(most, above.BitLen())
			zero = zero || above.Sign() == 0
			diff := new(big.Int).Add(big.NewInt(least), &above)
			if !diff.IsInt64() { // it would be less than the least one
				return nil, false
			}
			last = wrapped(diff.Add(diff, big.NewInt(last)))
			l = append(l, api.Value{Kind: kind, N: last})
		}
		if most != width || !zero || bits.Sign() != 0 {
			return nil, false
		}
	}
	if s != "" {
		return nil, false
	}
	for _, v := range l {
		if kind == api.Int && v.N != int64(int32(v.N)) {
			return nil, false
		}
	}
	return l, true
}

func TestP31DeltaKnown(t *testing.T) {
	rising := numbers(api.Int, 0)
	for i := 1; i <= 33; i++ {
		rising = append(rising, api.Value{Kind: api.Int, N: int64(3 * i)})
	}
	for _, c := range []struct {
		kind int
		l    []api.Value
		want string
	}{
		{api.Int, nil, ""}, {api.Long, nil, ""}, {api.Int, numbers(api.Int, -1), "\x01"}, {api.Int, numbers(api.Int, 7, 8, 10, 11), "\x0e\x02\x01\x02"},
		{api.Int, numbers(api.Int, 5, 5, 5), "\x0a\x00\x00"}, {api.Int, numbers(api.Int, 0, -3, 0), "\x00\x05\x03\x30"},
		{api.Int, numbers(api.Int, math.MinInt32, math.MaxInt32, math.MinInt32), "\xff\xff\xff\xff\x0f\xfd\xff\xff\xff\x1f\x21\xfe\xff\xff\xff\x01\x00\x00\x00\x00"},
		{api.Long, numbers(api.Long, math.MaxInt64, math.MinInt64), "\xfe\xff\xff\xff\xff\xff\xff\xff\xff\x01\x02\x00"},
		// Differences 2^63 - 1 and -2^63: 64 bits each.
		{api.Long, numbers(api.Long, 0, math.MaxInt64, -1), "\x00\xff\xff\xff\xff\xff\xff\xff\xff\xff\x01\x40\xff\xff\xff\xff\xff\xff\xff\xff\x00\x00\x00\x00\x00\x00\x00\x00"},
		// 32 differences, and one more.
		{api.Int, rising[:33], "\x00\x06\x00"}, {api.Int, rising, "\x00\x06\x00\x06\x00"},
	} {
		if s, err := enc.Delta(c.kind, c.l); s != c.want || err != nil {
			t.Errorf("Delta(%v) = %q, %v, want %q", c.l, s, err, c.want)
		}
		if l, err := enc.ReadDelta(c.kind, c.want, len(c.l)); !slices.Equal(l, c.l) || err != nil {
			t.Errorf("ReadDelta(%q) = %v, %v", c.want, l, err)
		}
	}
}

func TestP31DeltaByTheRule(t *testing.T) {
	r := rand.New(rand.NewSource(31))
	for range 20 {
		for _, kind := range []int{api.Int, api.Long} {
			for _, l := range lists(r, kind) {
				if s, err := enc.Delta(kind, l); s != deltaOf(l) || err != nil {
					t.Fatalf("Delta(%v) = %q, %v, want %q", l, s, err, deltaOf(l))
				}
			}
		}
	}
}

// TestP31EveryWidth: two differences, so far apart that they take each width.
func TestP31EveryWidth(t *testing.T) {
	for width := range 65 {
		apart := uint64(math.MaxUint64) >> (64 - width)
		least := int64(-(apart/2 + apart%2))
		l := numbers(api.Long, 0, least, least+int64(uint64(least)+apart))
		s, err := enc.Delta(api.Long, l)
		if err != nil || s != deltaOf(l) || int(s[1+len(wire.Varint(least))]) != width {
			t.Fatalf("width %d: %q, %v", width, s, err)
		}
		if got, err := enc.ReadDelta(api.Long, s, len(l)); !slices.Equal(got, l) || err != nil {
			t.Fatalf("width %d: %v, %v", width, got, err)
		}
	}
}

func TestP31KindsWithoutDelta(t *testing.T) {
	for _, kind := range []int{api.Bool, api.Bytes, api.Double} {
		for _, l := range [][]api.Value{nil, {{Kind: kind}}} {
			if s, err := enc.Delta(kind, l); s != "" || err != api.ErrKind {
				t.Errorf("Delta(%d, %v) = %q, %v", kind, l, s, err)
			}
		}
		for _, s := range []string{"", "\x00"} {
			if l, err := enc.ReadDelta(kind, s, len(s)); l != nil || err != api.ErrKind {
				t.Errorf("ReadDelta(%d, %q) = %v, %v", kind, s, l, err)
			}
		}
	}
}

func TestP31NoDeltaTexts(t *testing.T) {
	least, most := wire.Varint(math.MinInt64), wire.Varint(math.MaxInt64)
	for _, c := range []struct {
		kind, n int
		s       string
	}{
		{api.Int, 0, "\x00"}, {api.Int, 1, ""}, {api.Int, 1, "\x80"}, {api.Int, 1, "\x02\x00"}, {api.Int, 1, "\x80\x00"}, // of all of it
		{api.Int, 2, "\x0e"}, {api.Int, 2, "\x0e\x02"}, {api.Int, 2, "\x0e\x02\x01"}, {api.Int, 2, "\x0e\x80\x00"}, {api.Int, 2, "\x0e\x02\x00\x00"}, {api.Int, 4, "\x0e\x02\x01"}, {api.Int, 4, "\x0e\x02\x01\x02\x00"},
		{api.Int, 2, "\x0e\x02\x01\x00"}, {api.Int, 4, "\x0e\x02\x02\x04"}, {api.Int, 3, "\x00\x00\x08\x00\x00"}, {api.Long, 2, "\x00\x00\x40" + strings.Repeat("\x00", 8)}, // the width is not the least one
		{api.Int, 4, "\x0e\x02\x01\x0a"}, {api.Int, 4, "\x0e\x02\x01\x82"}, {api.Int, 3, "\x00\x00\x03\x40"}, // what is left over is not 0
		{api.Int, 4, "\x0e\x00\x01\x07"}, {api.Int, 2, "\x0e\x00\x01\x01"}, {api.Int, 3, "\x00\x00\x02\x0b"}, // the least one is none of the differences
		{api.Int, 1, wire.Varint(math.MaxInt32 + 1)}, {api.Int, 1, wire.Varint(math.MinInt32 - 1)}, {api.Int, 1, most}, {api.Int, 2, wire.Varint(math.MaxInt32) + "\x02\x00"}, {api.Int, 2, wire.Varint(math.MinInt32) + "\x01\x00"}, // an N that Int has not
		{api.Int, 3, wire.Varint(math.MaxInt32) + "\x01\x02\x03"},
		{api.Long, 2, "\x00\x00\x41" + strings.Repeat("\x00", 9)}, {api.Long, 2, "\x00\x00\xff" + strings.Repeat("\x00", 40)}, {api.Long, 3, "\x00\x00\x80" + strings.Repeat("\xff", 40)}, // wider than 64 bits
		{api.Long, 3, "\x00" + most + "\x01\x02"}, {api.Long, 3, "\x00\x02\x40" + strings.Repeat("\xff", 8) + strings.Repeat("\x00", 8)}, // a difference runs over, and is less than the least one
		{api.Int, 34, "\x00\x06\x00"}, {api.Int, 33, "\x00\x06\x00\x06\x00"}, {api.Int, api.MaxEntries, "\x00\x06\x00"}, {api.Long, 2, "\x00" + least}, {api.Long, 2, "\x00" + least + "\x01"},
	} {
		if l, err := enc.ReadDelta(c.kind, c.s, c.n); l != nil || err != api.ErrText {
			t.Errorf("ReadDelta(%d, %q, %d) = %v, %v", c.kind, c.s, c.n, l, err)
		}
	}
}

func TestP31AgainstAnotherReader(t *testing.T) {
	r := rand.New(rand.NewSource(310))
	read, not := 0, 0
	for range 60000 {
		kind := []int{api.Int, api.Long}[r.Intn(2)]
		var l []api.Value
		for range r.Intn(6) {
			l = append(l, oneOf(r, kind))
		}
		s := deltaOf(l)
		if r.Intn(3) == 0 {
			s = "\x00\x00"[:r.Intn(3)]
		}
		n := max(0, len(l)+r.Intn(3)-1)
		s = spoil(r, s)
		want, ok := readDeltaOf(kind, s, n)
		got, err := enc.ReadDelta(kind, s, n)
		if !slices.Equal(got, want) || (err == nil) != ok || !ok && err != api.ErrText {
			t.Fatalf("ReadDelta(%d, %q, %d) = %v, %v, want %v, %v", kind, s, n, got, err, want, ok)
		}
		if ok {
			read++
		} else {
			not++
		}
	}
	if read < 2000 || not < 2000 {
		t.Errorf("%d texts were read, %d were not", read, not)
	}
}
