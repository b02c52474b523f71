package wire_test

import (
	"encoding/binary"
	"math"
	"math/rand"
	"strings"
	"testing"

	"shredcol/api"
	"shredcol/wire"
)

// Errors here have no place, so they are held against the bare ones by ==.

const full = "\xff\xff\xff\xff\xff\xff\xff\xff\xff" // nine bytes that go on

// noNumbers: texts that begin with no number.
var noNumbers = []string{
	"", "\x80", "\xff", "\xff\xff", full, // they end ahead of the last byte
	"\x80\x00", "\xff\x00", "\x80\x80\x00", full + "\x00", "\x80\x00\x01", // the last byte is 0, and not the only one
	full + "\x02", full + "\x03", full + "\x7f", // 2^64 or more
	full + "\x80", full + "\x81", full + "\xff", // the tenth byte goes on, and nothing is behind it
	full + "\x81\x00", full + "\xff\x01", "\x80\x80\x80\x80\x80\x80\x80\x80\x80\x80\x01", strings.Repeat("\x80", 30) + "\x01", // more than 10 bytes
}

// behind: what may stand behind a word.
var behind = []string{"", "\x00", "\x01", "\x7f", "\x80", "\xff", "rest", "\x80\x80", full + full}

// edges of 7 bits and of 8 bits, and numbers between them.
func edges() []uint64 {
	l := []uint64{0, 1, 2, 3, 5, 63, 64, 65, 300, 0x1234, api.MaxData, math.MaxUint64 - 1, math.MaxUint64}
	for bit := range 64 {
		p := uint64(1) << bit
		l = append(l, p-1, p, p+1, p|p>>1)
	}
	r := rand.New(rand.NewSource(1))
	for range 500 {
		l = append(l, r.Uint64()>>r.Intn(64))
	}
	return l
}

func TestP10UvarintOfKnownNumbers(t *testing.T) {
	for n, want := range map[uint64]string{
		0: "\x00", 1: "\x01", 127: "\x7f", 128: "\x80\x01", 129: "\x81\x01", 300: "\xac\x02",
		1<<14 - 1: "\xff\x7f", 1 << 14: "\x80\x80\x01",
		1<<63 - 1: "\xff\xff\xff\xff\xff\xff\xff\xff\x7f", 1 << 63: "\x80\x80\x80\x80\x80\x80\x80\x80\x80\x01",
		math.MaxUint64: full + "\x01",
	} {
		if got := wire.Uvarint(n); got != want {
			t.Errorf("Uvarint(%d) = %q, want %q", n, got, want)
		}
	}
}

func TestP10UvarintAndBack(t *testing.T) {
	for _, n := range edges() {
		s := wire.Uvarint(n)
		if want := string(binary.AppendUvarint(nil, n)); s != want {
			t.Fatalf("Uvarint(%d) = %q, want %q", n, s, want)
		}
		for _, b := range behind {
			if x, used, err := wire.ReadUvarint(s + b); x != n || used != len(s) || err != nil {
				t.Fatalf("ReadUvarint(%q) = %d, %d, %v", s+b, x, used, err)
			}
		}
	}
}

func TestP10NoNumbers(t *testing.T) {
	for _, s := range noNumbers {
		if n, used, err := wire.ReadUvarint(s); n != 0 || used != 0 || err != api.ErrText {
			t.Errorf("ReadUvarint(%q) = %d, %d, %v", s, n, used, err)
		}
		if n, used, err := wire.ReadVarint(s); n != 0 || used != 0 || err != api.ErrText {
			t.Errorf("ReadVarint(%q) = %d, %d, %v", s, n, used, err)
		}
	}
}

func TestP10ShortTextsAreOneNumberOrNone(t *testing.T) {
	for i := range 1 << 16 {
		s := string([]byte{byte(i), byte(i >> 8)})
		n, used, err := wire.ReadUvarint(s)
		switch {
		case s[0] < 128:
			if n != uint64(s[0]) || used != 1 || err != nil {
				t.Fatalf("%q: %d, %d, %v", s, n, used, err)
			}
		case s[1] == 0 || s[1] >= 128:
			if n != 0 || used != 0 || err != api.ErrText {
				t.Fatalf("%q: %d, %d, %v", s, n, used, err)
			}
		default:
			if n != uint64(s[0]-128)+128*uint64(s[1]) || used != 2 || err != nil {
				t.Fatalf("%q: %d, %d, %v", s, n, used, err)
			}
		}
	}
}

func TestP10VarintOfKnownNumbers(t *testing.T) {
	for n, want := range map[int64]string{
		0: "\x00", -1: "\x01", 1: "\x02", -2: "\x03", 63: "\x7e", -64: "\x7f", 64: "\x80\x01", -65: "\x81\x01", 150: "\xac\x02",
		math.MaxInt64: "\xfe\xff\xff\xff\xff\xff\xff\xff\xff\x01", math.MinInt64: full + "\x01",
	} {
		if got := wire.Varint(n); got != want {
			t.Errorf("Varint(%d) = %q, want %q", n, got, want)
		}
	}
}

func TestP10VarintAndBack(t *testing.T) {
	for _, u := range edges() {
		n := int64(u)
		s := wire.Varint(n)
		if want := string(binary.AppendVarint(nil, n)); s != want {
			t.Fatalf("Varint(%d) = %q, want %q", n, s, want)
		}
		for _, b := range behind {
			if x, used, err := wire.ReadVarint(s + b); x != n || used != len(s) || err != nil {
				t.Fatalf("ReadVarint(%q) = %d, %d, %v", s+b, x, used, err)
			}
		}
	}
}

func TestP11FixedOfKnownNumbers(t *testing.T) {
	for _, c := range []struct {
		n    uint64
		size int
		want string
	}{
		{0, 1, "\x00"}, {255, 1, "\xff"}, {0x1234, 2, "\x34\x12"}, {0x1234, 4, "\x34\x12\x00\x00"}, {0x010203, 3, "\x03\x02\x01"},
		{0x0102030405060708, 8, "\x08\x07\x06\x05\x04\x03\x02\x01"}, {math.MaxUint64, 8, "\xff\xff\xff\xff\xff\xff\xff\xff"},
	} {
		if s, err := wire.Fixed(c.n, c.size); s != c.want || err != nil {
			t.Errorf("Fixed(%d, %d) = %q, %v", c.n, c.size, s, err)
		}
	}
}

func TestP11FixedAndBack(t *testing.T) {
	for _, n := range edges() {
		for size := 1; size <= 8; size++ {
			s, err := wire.Fixed(n, size)
			if size < 8 && n >= 1<<(8*size) {
				if s != "" || err != api.ErrBound {
					t.Fatalf("Fixed(%d, %d) = %q, %v", n, size, s, err)
				}
				continue
			}
			if len(s) != size || err != nil {
				t.Fatalf("Fixed(%d, %d) = %q, %v", n, size, s, err)
			}
			for _, b := range behind {
				if x, err := wire.ReadFixed(s+b, size); x != n || err != nil {
					t.Fatalf("ReadFixed(%q, %d) = %d, %v", s+b, size, x, err)
				}
			}
		}
	}
}

func TestP11WrongSizes(t *testing.T) {
	for _, size := range []int{0, -1, 9, 10, 64, -8, math.MaxInt, math.MinInt, math.MaxInt32, math.MinInt32} {
		for _, n := range []uint64{0, 1, math.MaxUint64} {
			if s, err := wire.Fixed(n, size); s != "" || err != api.ErrBound {
				t.Errorf("Fixed(%d, %d) = %q, %v", n, size, s, err)
			}
		}
		// The size is told first, also where s has too few bytes.
		for _, s := range []string{"", "abcdefghijklmnop"} {
			if n, err := wire.ReadFixed(s, size); n != 0 || err != api.ErrBound {
				t.Errorf("ReadFixed(%q, %d) = %d, %v", s, size, n, err)
			}
		}
	}
}

func TestP11TooFewBytes(t *testing.T) {
	for size := 1; size <= 8; size++ {
		for have := range size {
			if n, err := wire.ReadFixed("\xff\xff\xff\xff\xff\xff\xff\xff"[:have], size); n != 0 || err != api.ErrText {
				t.Errorf("%d of %d bytes: %d, %v", have, size, n, err)
			}
		}
	}
}

// texts of lengths about which Uvarint's length changes, and of any bytes.
func texts() []string {
	l := []string{"", "a", "abc", "\x00", "\x80", "\xff\xfe", "ä€"}
	for _, n := range []int{126, 127, 128, 129, 1<<14 - 1, 1 << 14, api.MaxData - 1, api.MaxData} {
		l = append(l, strings.Repeat("\xfe", n))
	}
	return l
}

func TestP12TextAndBack(t *testing.T) {
	for s, want := range map[string]string{"": "\x00", "abc": "\x03abc", "\x80\x00": "\x02\x80\x00"} {
		if got := wire.Text(s); got != want {
			t.Errorf("Text(%q) = %q, want %q", s, got, want)
		}
	}
	for _, s := range texts() {
		w := wire.Text(s)
		if w != wire.Uvarint(uint64(len(s)))+s {
			t.Fatalf("Text of %d bytes", len(s))
		}
		for _, b := range behind {
			if x, used, err := wire.ReadText(w + b); x != s || used != len(w) || err != nil {
				t.Fatalf("ReadText of %d bytes, %q behind: %d bytes, %d, %v", len(s), b, len(x), used, err)
			}
		}
	}
}

func TestP12NoTexts(t *testing.T) {
	long := strings.Repeat("x", api.MaxData+1)
	l := append([]string{
		"\x01", "\x03ab", "\x7f" + strings.Repeat("x", 126), "\x80\x01" + strings.Repeat("x", 127),
		wire.Uvarint(api.MaxData) + long[:api.MaxData-1],
		wire.Text(long), wire.Uvarint(api.MaxData+1) + "x", // above MaxData, be it there or not
		wire.Uvarint(1<<31) + "x", wire.Uvarint(1<<32) + "x", wire.Uvarint(1<<32+1) + "x", wire.Uvarint(1<<63-1) + "x", wire.Uvarint(1<<63) + "x", wire.Uvarint(math.MaxUint64) + "x",
	}, noNumbers...)
	for _, s := range l {
		if x, used, err := wire.ReadText(s); x != "" || used != 0 || err != api.ErrText {
			t.Errorf("ReadText(%.20q, of %d bytes): %d bytes, %d, %v", s, len(s), len(x), used, err)
		}
	}
}

// words of one kind, no two of them the same.
func words(write func(n uint64) string) []string {
	seen := map[uint64]bool{}
	var l []string
	for _, n := range edges() {
		if !seen[n] {
			seen[n] = true
			l = append(l, write(n))
		}
	}
	return l
}

func TestP14NoWordBeginsAnother(t *testing.T) {
	for kind, l := range map[string][]string{
		"Uvarint": words(wire.Uvarint),
		"Varint":  words(func(n uint64) string { return wire.Varint(int64(n)) }),
		"Text":    words(func(n uint64) string { return wire.Text(strings.Repeat("\x01", int(n%200)) + wire.Uvarint(n)) }),
		"Fixed": words(func(n uint64) string {
			s, _ := wire.Fixed(n, 8)
			return s
		}),
	} {
		for i, a := range l {
			for k, b := range l {
				if i != k && strings.HasPrefix(a, b) {
					t.Fatalf("%s: %q begins with %q", kind, a, b)
				}
			}
		}
	}
}

func TestP14PiecesOfWordsAreNone(t *testing.T) {
	for _, n := range edges() {
		s := wire.Uvarint(n)
		for end := range s {
			if _, _, err := wire.ReadUvarint(s[:end]); err != api.ErrText {
				t.Fatalf("%q, a piece of %q: %v", s[:end], s, err)
			}
		}
	}
	w := wire.Text(strings.Repeat("\x00", 300))
	for end := range len(w) {
		if _, _, err := wire.ReadText(w[:end]); err != api.ErrText {
			t.Fatalf("%d bytes of a text: %v", end, err)
		}
	}
}

func TestP14WhatIsReadIsWritten(t *testing.T) {
	r := rand.New(rand.NewSource(14))
	for range 20000 {
		b := make([]byte, r.Intn(14))
		r.Read(b)
		for i := range b {
			if r.Intn(4) > 0 {
				b[i] |= 0x80
			}
		}
		s := string(b)
		if n, used, err := wire.ReadUvarint(s); err == nil && wire.Uvarint(n) != s[:used] {
			t.Fatalf("ReadUvarint(%q) = %d, %d", s, n, used)
		}
		if n, used, err := wire.ReadVarint(s); err == nil && wire.Varint(n) != s[:used] {
			t.Fatalf("ReadVarint(%q) = %d, %d", s, n, used)
		}
		if x, used, err := wire.ReadText(s); err == nil && wire.Text(x) != s[:used] {
			t.Fatalf("ReadText(%q) = %q, %d", s, x, used)
		}
	}
}
