// Package wire: bytes: see ../shared/doc/01-wire.md.
package wire

import (
	"strings"

	"shredcol/api"
)

const (
	more    = 0x80 // the bit that says that the number goes on
	low     = 0x7f // the bits of a byte that are the number's
	maxUsed = 10   // bytes of the longest number: 64 bits, 7 a byte
)

// Uvarint: 7 bits a byte.
func Uvarint(n uint64) string {
	b := make([]byte, 0, maxUsed)
	for n >= more {
		b = append(b, byte(n)|more)
		n >>= 7
	}
	return string(append(b, byte(n)))
}

// ReadUvarint reads a number.
func ReadUvarint(s string) (n uint64, used int, err error) {
	for i := 0; i < len(s) && i < maxUsed; i++ {
		n |= uint64(s[i]&low) << (7 * i)
		if s[i]&more != 0 {
			continue
		}
		if !endsWell(i, s[i]) {
			break
		}
		return n, i + 1, nil
	}
	return 0, 0, api.ErrText
}

// endsWell: may a number's last byte, at place i, be this one? A 0 that is not
// alone would give one number two spellings; the tenth byte has room for the
// 64th bit only.
func endsWell(i int, last byte) bool {
	if i == 0 {
		return true
	}
	return last != 0 && (i < maxUsed-1 || last == 1)
}

// Varint: signs in the lowest bit.
func Varint(n int64) string {
	if n < 0 {
		// -2n - 1 of the least number would run over; turning the bits of 2n does not.
		return Uvarint(^(uint64(n) << 1))
	}
	return Uvarint(uint64(n) << 1)
}

// ReadVarint reads a number.
func ReadVarint(s string) (n int64, used int, err error) {
	u, used, err := ReadUvarint(s)
	if err != nil {
		return 0, 0, err
	}
	n = int64(u >> 1)
	if u&1 == 1 {
		n = ^n
	}
	return n, used, nil
}

// Fixed: so many bytes.
func Fixed(n uint64, size int) (string, error) {
	if !isSize(size) || n>>(8*(size-1)) > 0xff {
		return "", api.ErrBound
	}
	b := make([]byte, size)
	for i := range b {
		b[i] = byte(n >> (8 * i))
	}
	return string(b), nil
}

// ReadFixed reads so many bytes.
func ReadFixed(s string, size int) (uint64, error) {
	if !isSize(size) {
		return 0, api.ErrBound
	}
	if len(s) < size {
		return 0, api.ErrText
	}
	var n uint64
	for i := range size {
		n |= uint64(s[i]) << (8 * i)
	}
	return n, nil
}

func isSize(size int) bool { return size >= 1 && size <= 8 }

// Text: its length, and its bytes.
func Text(s string) string { return Uvarint(uint64(len(s))) + s }

// ReadText reads a text.
func ReadText(s string) (text string, used int, err error) {
	n, used, err := ReadUvarint(s)
	if err != nil {
		return "", 0, err
	}
	// Held against MaxData while it is still without a sign: an int might run over.
	if n > api.MaxData || int(n) > len(s)-used {
		return "", 0, api.ErrText
	}
	end := used + int(n)
	// A clone, so that a short text does not keep all of s in memory.
	return strings.Clone(s[used:end]), end, nil
}
