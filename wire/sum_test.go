package wire_test

import (
	"hash/crc32"
	"math/rand"
	"strings"
	"testing"

	"shredcol/api"
	"shredcol/wire"
)

// slowSum is the rule of P13, word by word.
func slowSum(s string) uint32 {
	sum := uint32(0xFFFFFFFF)
	for i := range len(s) {
		sum ^= uint32(s[i])
		for range 8 {
			out := sum & 1
			sum >>= 1
			if out == 1 {
				sum ^= 0xEDB88320
			}
		}
	}
	return ^sum
}

func TestP13SumOfKnownTexts(t *testing.T) {
	for s, want := range map[string]uint32{
		"123456789": 0xCBF43926, "": 0, "a": 0xE8B7BE43, "\x00": 0xD202EF8D, "\xff": 0xFF000000, "\xff\xff\xff\xff": 0xFFFFFFFF,
	} {
		if got := wire.Sum(s); got != want {
			t.Errorf("Sum(%q) = %08X, want %08X", s, got, want)
		}
	}
}

func TestP13SumByTheRule(t *testing.T) {
	l := []string{strings.Repeat("\x00", 1000), strings.Repeat("\xff", api.MaxData)}
	for i := range 256 {
		l = append(l, string([]byte{byte(i)}), string([]byte{'x', byte(i)}))
	}
	r := rand.New(rand.NewSource(13))
	for range 300 {
		b := make([]byte, r.Intn(200))
		r.Read(b)
		l = append(l, string(b))
	}
	for _, s := range l {
		got := wire.Sum(s)
		if want := slowSum(s); got != want {
			t.Fatalf("Sum(%.20q, of %d bytes) = %08X, want %08X", s, len(s), got, want)
		}
		if want := crc32.ChecksumIEEE([]byte(s)); got != want {
			t.Fatalf("Sum(%.20q, of %d bytes) = %08X, in common use %08X", s, len(s), got, want)
		}
	}
}

// turn the bits of s that are set in bits, from bit at on.
func turn(s string, at int, bits uint32) string {
	b := []byte(s)
	for i := range 32 {
		if bits>>i&1 == 1 {
			b[(at+i)/8] ^= 1 << ((at + i) % 8)
		}
	}
	return string(b)
}

func TestP14SumTellsTurnedBits(t *testing.T) {
	r := rand.New(rand.NewSource(32))
	for _, n := range []int{4, 5, 9, 40} {
		b := make([]byte, n)
		r.Read(b)
		s := string(b)
		sum := wire.Sum(s)
		for at := range 8*n - 31 {
			rows := []uint32{1, 3, 1 << 31, 1<<31 | 1, 1<<32 - 1, 0xEDB88320}
			for range 100 {
				rows = append(rows, r.Uint32()|1)
			}
			for _, bits := range rows {
				if wire.Sum(turn(s, at, bits)) == sum {
					t.Fatalf("%q: bits %08x from %d on are not told", s, bits, at)
				}
			}
		}
	}
}

func TestP14SumTellsOneTurnedBitOfALongText(t *testing.T) {
	s := strings.Repeat("shredcol", 250)
	sum := wire.Sum(s)
	for at := range 8 * (len(s) - 4) {
		if wire.Sum(turn(s, at, 1)) == sum {
			t.Fatalf("bit %d is not told", at)
		}
	}
}
