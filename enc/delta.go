package enc

import (
	"math/bits"
	"slices"

	"shredcol/api"
	"shredcol/wire"
)

const (
	blockLen = 32 // differences that share a least one and a width
	maxBits  = 64 // the widest: two differences may be as far apart as 64 bits tell
)

// Delta of numbers.
func Delta(kind int, l []api.Value) (string, error) {
	if err := check(kind, l); err != nil {
		return "", err
	}
	if !hasDelta(kind) {
		return "", api.ErrKind
	}
	if len(l) == 0 {
		return "", nil
	}
	b := []byte(wire.Varint(l[0].N))
	for diffs := differences(l); len(diffs) > 0; {
		end := min(blockLen, len(diffs))
		b = appendBlock(b, diffs[:end])
		diffs = diffs[end:]
	}
	return string(b), nil
}

// differences: one fewer than there are numbers.
func differences(l []api.Value) []int64 {
	diffs := make([]int64, len(l)-1)
	for i := range diffs {
		diffs[i] = l[i+1].N - l[i].N
	}
	return diffs
}

func appendBlock(b []byte, diffs []int64) []byte {
	least, most := slices.Min(diffs), slices.Max(diffs)
	// Without a sign, since the greatest may be more than 2^63 - 1 above the least.
	width := bits.Len64(uint64(most) - uint64(least))
	above := make([]uint64, len(diffs))
	for i, d := range diffs {
		above[i] = uint64(d) - uint64(least)
	}
	b = append(b, wire.Varint(least)...)
	b = append(b, byte(width))
	return append(b, packWide(above, width)...)
}

// ReadDelta reads numbers: what writes the same bytes.
func ReadDelta(kind int, s string, n int) ([]api.Value, error) {
	if err := checkCount(kind, n); err != nil {
		return nil, err
	}
	if !hasDelta(kind) {
		return nil, api.ErrKind
	}
	l, err := readSteps(kind, s, n)
	if err != nil {
		return nil, err
	}
	// Whatever else may be wrong (a width, a least one, bits left over, a number
	// that the kind has not, bytes behind) is not what would be written.
	if back, err := Delta(kind, l); err != nil || back != s {
		return nil, api.ErrText
	}
	return l, nil
}

// readSteps: the numbers, step by step, be they written as they should or not.
func readSteps(kind int, s string, n int) ([]api.Value, error) {
	if n == 0 {
		return nil, nil
	}
	last, used, err := wire.ReadVarint(s)
	if err != nil {
		return nil, err
	}
	l := make([]api.Value, 0, n)
	l = append(l, api.Value{Kind: kind, N: last})
	for len(l) < n {
		diffs, size, err := readBlock(s[used:], min(blockLen, n-len(l)))
		if err != nil {
			return nil, err
		}
		for _, d := range diffs {
			last += d
			l = append(l, api.Value{Kind: kind, N: last})
		}
		used += size
	}
	return l, nil
}

func readBlock(s string, many int) (diffs []int64, used int, err error) {
	least, used, err := wire.ReadVarint(s)
	if err != nil {
		return nil, 0, err
	}
	if used == len(s) || s[used] > maxBits {
		return nil, 0, api.ErrText
	}
	width := int(s[used])
	used++
	end := used + bytesOf(many, width)
	if end > len(s) {
		return nil, 0, api.ErrText
	}
	diffs = make([]int64, many)
	for i, above := range unpackWide(s[used:end], width, many) {
		diffs[i] = least + int64(above)
	}
	return diffs, end, nil
}

// bytesOf: how many so many numbers of so many bits take.
func bytesOf(many, width int) int { return (many*width + 7) / 8 }

// packWide fills bytes as bitrun.Pack does, which has no room for more than
// api.MaxWidth bits.
func packWide(l []uint64, width int) []byte {
	b := make([]byte, bytesOf(len(l), width))
	at := 0 // the bit that is filled next
	for _, n := range l {
		for left := width; left > 0; {
			take := min(left, 8-at%8)
			b[at/8] |= byte(n << (at % 8))
			n >>= take
			at += take
			left -= take
		}
	}
	return b
}

// unpackWide: s has the bytes that the numbers take.
func unpackWide(s string, width, many int) []uint64 {
	l := make([]uint64, many)
	at := 0
	for i := range l {
		for have := 0; have < width; {
			take := min(width-have, 8-at%8)
			piece := s[at/8] >> (at % 8) & (1<<take - 1)
			l[i] |= uint64(piece) << have
			have += take
			at += take
		}
	}
	return l
}
