package bitrun_test

import (
	"errors"
	"math"
	"math/rand"
	"slices"
	"strings"
	"testing"

	"shredcol/api"
	"shredcol/bitrun"
	"shredcol/wire"
)

// Bare errors are held by ==, since those without a place must not be wrapped.

const full = "\xff\xff\xff\xff\xff\xff\xff\xff\xff" // nine bytes of a number that go on

// behind: what may stand behind packed numbers or runs.
var behind = []string{"", "\x00", "\x01", "\x02\x01", "\x03\xff", "\x80", "rest", full + full}

func of(n, many int) []int { return slices.Repeat([]int{n}, many) }

func join(ls ...[]int) []int { return slices.Concat(ls...) }

// bitsOf: the numbers as a row of '0' and '1', each number's lowest bit first.
func bitsOf(l []int, width int) string {
	var b strings.Builder
	for _, n := range l {
		for i := range width {
			b.WriteByte('0' + byte(n>>i&1))
		}
	}
	return b.String()
}

// bytesOf: a row of '0' and '1' as bytes, each filled from its lowest bit on.
func bytesOf(row string) string {
	b := make([]byte, (len(row)+7)/8)
	for i := range len(row) {
		b[i/8] += (row[i] - '0') << (i % 8)
	}
	return string(b)
}

// numberBytes: the number in as few bytes as width takes, the lowest first.
func numberBytes(n, width int) string {
	s := ""
	for i := 0; i < width; i += 8 {
		s += string([]byte{byte(n >> i)})
	}
	return s
}

// runsOf: as P21 says, by marking where parts begin.
func runsOf(l []int, width int) string {
	out, groups, packed := "", 0, ""
	flush := func() {
		if groups > 0 {
			out += wire.Uvarint(uint64(2*groups+1)) + packed
		}
		groups, packed = 0, ""
	}
	for len(l) > 0 {
		same := slices.IndexFunc(l, func(n int) bool { return n != l[0] })
		if same < 0 {
			same = len(l)
		}
		if same >= 8 {
			flush()
			out += wire.Uvarint(uint64(2*same)) + numberBytes(l[0], width)
			l = l[same:]
			continue
		}
		eight := make([]int, 8)
		l = l[copy(eight, l):]
		groups++
		packed += bytesOf(bitsOf(eight, width))
	}
	flush()
	return out
}

// readRunsOf: as P22 says, number by number; ok: whether the text has such parts.
func readRunsOf(s string, width, n int) (l []int, used int, ok bool) {
	for len(l) < n {
		head, size, err := wire.ReadUvarint(s[used:])
		if err != nil || head < 2 || head/2 > api.MaxEntries {
			return nil, 0, false
		}
		used += size
		size, many := (width+7)/8, int(head/2)
		if head%2 == 1 {
			size = many * width
		}
		if used+size > len(s) {
			return nil, 0, false
		}
		body := s[used : used+size]
		used += size
		if head%2 == 0 {
			number := 0
			for i := range len(body) {
				number += int(body[i]) << (8 * i)
			}
			if number >= 1<<width || len(l)+many > n {
				return nil, 0, false
			}
			l = append(l, of(number, many)...)
			continue
		}
		for i := range 8 * many {
			number := 0
			for bit := range width {
				at := i*width + bit
				number += int(body[at/8]>>(at%8)&1) << bit
			}
			if len(l) < n {
				l = append(l, number)
			} else if number != 0 || 8*many-i >= 8 {
				return nil, 0, false
			}
		}
	}
	return l, used, true
}

// lists of numbers that fit in so many bits, with runs of all short lengths in them.
func lists(r *rand.Rand, width int) [][]int {
	most := 1<<width - 1
	out := [][]int{nil, {0}, {most}, of(most, 7), of(most, 8), of(most, 9), of(0, 16), {most, 0, most, 0}}
	for range 60 {
		var l []int
		for range r.Intn(12) {
			n := r.Intn(most + 1)
			if r.Intn(3) == 0 {
				n = min(most, r.Intn(3))
			}
			l = append(l, of(n, 1+r.Intn(20)*r.Intn(2))...)
		}
		out = append(out, l)
	}
	return out
}

func checkFault(t *testing.T, what string, err error, at int) {
	t.Helper()
	var f *api.Fault
	if !errors.As(err, &f) || err != error(f) || f.At != at || f.Err != api.ErrShape {
		t.Errorf("%s: %v, want ErrShape at %d", what, err, at)
	}
}

func TestP20PackKnown(t *testing.T) {
	for _, c := range []struct {
		l     []int
		width int
		want  string
	}{
		{[]int{1, 2}, 2, "\x09"}, {[]int{1, 2, 3, 0, 1}, 2, "\x39\x01"}, {nil, 5, ""}, {[]int{}, 0, ""}, {of(0, 30), 0, ""},
		{[]int{1}, 1, "\x01"}, {of(1, 8), 1, "\xff"}, {of(1, 9), 1, "\xff\x01"}, {[]int{5, 6, 7}, 3, "\xf5\x01"},
		{[]int{0x12, 0xff}, 8, "\x12\xff"}, {[]int{300, 0}, 9, "\x2c\x01\x00"}, {[]int{0xabc, 0x123}, 12, "\xbc\x3a\x12"},
		{[]int{math.MaxUint32, 0x01020304}, 32, "\xff\xff\xff\xff\x04\x03\x02\x01"}, {[]int{1<<31 - 1, 1}, 31, "\xff\xff\xff\xff\x00\x00\x00\x00"},
	} {
		if s, err := bitrun.Pack(c.l, c.width); s != c.want || err != nil {
			t.Errorf("Pack(%v, %d) = %q, %v, want %q", c.l, c.width, s, err, c.want)
		}
	}
}

func TestP20PackAllWidths(t *testing.T) {
	r := rand.New(rand.NewSource(20))
	for width := range api.MaxWidth + 1 {
		for _, l := range lists(r, width) {
			if s, err := bitrun.Pack(l, width); s != bytesOf(bitsOf(l, width)) || err != nil {
				t.Fatalf("Pack(%v, %d) = %q, %v", l, width, s, err)
			}
		}
	}
}

// Both packers have the same errors (P20, P21).
func packers() map[string]func([]int, int) (string, error) {
	return map[string]func([]int, int) (string, error){"Pack": bitrun.Pack, "Runs": bitrun.Runs}
}

func TestP20P21Bounds(t *testing.T) {
	for name, pack := range packers() {
		for _, width := range []int{-1, -8, 33, 64, 1000, math.MaxInt, math.MinInt} {
			for _, l := range [][]int{nil, {0}, {-1}} {
				if s, err := pack(l, width); s != "" || err != api.ErrBound {
					t.Errorf("%s(%v, %d) = %q, %v", name, l, width, s, err)
				}
			}
		}
		for _, l := range [][]int{of(0, api.MaxEntries+1), of(-1, api.MaxEntries+1)} {
			if s, err := pack(l, 1); s != "" || err != api.ErrBound {
				t.Errorf("%s of too many: %q, %v", name, s, err)
			}
		}
		for _, width := range []int{0, 1, 7, 32} {
			l := of(1<<width-1, api.MaxEntries)
			if _, err := pack(l, width); err != nil {
				t.Errorf("%s of as many as may be, width %d: %v", name, width, err)
			}
		}
	}
}

func TestP20P21NumbersWithoutRoom(t *testing.T) {
	for name, pack := range packers() {
		for width := range api.MaxWidth + 1 {
			for _, wrong := range []int{-1, 1 << width, 1<<width + 1, 1 << 40, math.MaxInt, math.MinInt, -1 << 32, -1 << width} {
				for _, at := range []int{0, 1, 9, 40} {
					l := join(of(0, at), []int{wrong, 0, -5})
					s, err := pack(l, width)
					checkFault(t, name, err, at)
					if s != "" {
						t.Errorf("%s with an error: %q", name, s)
					}
				}
			}
			if _, err := pack([]int{0, 1<<width - 1}, width); err != nil {
				t.Errorf("%s, width %d: %v", name, width, err)
			}
		}
	}
}

func TestP20UnpackReadsTheFirst(t *testing.T) {
	for n, want := range [][]int{nil, {1}, {1, 2}, {1, 2, 3}, {1, 2, 3, 0}, {1, 2, 3, 0, 1}, {1, 2, 3, 0, 1, 3}} {
		if l, err := bitrun.Unpack("\x39\xcd\xff", 2, n); !slices.Equal(l, want) || err != nil {
			t.Errorf("the first %d: %v, %v", n, l, err)
		}
	}
	if l, err := bitrun.Unpack("", 0, 9); !slices.Equal(l, of(0, 9)) || err != nil {
		t.Error(l, err)
	}
	if l, err := bitrun.Unpack("\xff\xff\xff\xff\xfe\xff\xff\xff", 32, 2); !slices.Equal(l, []int{math.MaxUint32, math.MaxUint32 - 1}) || err != nil {
		t.Error(l, err)
	}
}

func TestP20UnpackWrong(t *testing.T) {
	for _, width := range []int{-1, 33, math.MaxInt, math.MinInt} {
		if l, err := bitrun.Unpack("", width, 1); l != nil || err != api.ErrBound {
			t.Error(width, l, err)
		}
	}
	for _, n := range []int{-1, api.MaxEntries + 1, math.MaxInt, math.MinInt} {
		for _, width := range []int{0, 1, 32} {
			if l, err := bitrun.Unpack("", width, n); l != nil || err != api.ErrBound {
				t.Error(n, width, l, err)
			}
		}
	}
	for width := 1; width <= api.MaxWidth; width++ {
		for n := 1; n < 20; n++ {
			size := (n*width + 7) / 8
			if l, err := bitrun.Unpack(strings.Repeat("\xff", size-1), width, n); l != nil || err != api.ErrText {
				t.Fatal(width, n, l, err)
			}
			if l, err := bitrun.Unpack(strings.Repeat("\xff", size), width, n); !slices.Equal(l, of(1<<width-1, n)) || err != nil {
				t.Fatal(width, n, l, err)
			}
		}
	}
}

func TestP21RunsKnown(t *testing.T) {
	ramp := []int{0, 1, 2, 3, 4, 5, 6, 7}
	for _, c := range []struct {
		l     []int
		width int
		want  string
	}{
		{nil, 3, ""}, {of(5, 8), 3, "\x10\x05"}, {of(1, 7), 1, "\x03\x7f"}, {of(0, 9), 0, "\x12"}, {of(0, 7), 0, "\x03"}, {[]int{0}, 0, "\x03"},
		{ramp, 3, "\x03\x88\xc6\xfa"}, {join(ramp, ramp), 3, "\x05\x88\xc6\xfa\x88\xc6\xfa"}, {join(ramp, ramp[:2]), 3, "\x05\x88\xc6\xfa\x08\x00\x00"},
		// Seven wait for one more, which the run behind them loses.
		{join(of(1, 7), of(0, 8)), 1, "\x05\x7f\x00"}, {join(of(1, 7), of(0, 9)), 1, "\x03\x7f\x10\x00"},
		// A part of the second kind on both sides of a run, and runs side by side.
		{join(ramp, of(2, 8), ramp), 3, "\x03\x88\xc6\xfa\x10\x02\x03\x88\xc6\xfa"}, {join(of(1, 8), of(2, 9)), 2, "\x10\x01\x12\x02"},
		{of(1, 64), 1, "\x80\x01\x01"}, {of(300, 10), 9, "\x14\x2c\x01"}, {of(0x010203, 8), 17, "\x10\x03\x02\x01"}, {of(math.MaxUint32, 8), 32, "\x10\xff\xff\xff\xff"},
	} {
		if s, err := bitrun.Runs(c.l, c.width); s != c.want || err != nil {
			t.Errorf("Runs(%v, %d) = %q, %v, want %q", c.l, c.width, s, err, c.want)
		}
	}
}

func TestP21RunsAllWidths(t *testing.T) {
	r := rand.New(rand.NewSource(21))
	for width := range api.MaxWidth + 1 {
		for _, l := range lists(r, width) {
			if s, err := bitrun.Runs(l, width); s != runsOf(l, width) || err != nil {
				t.Fatalf("Runs(%v, %d) = %q, %v, want %q", l, width, s, err, runsOf(l, width))
			}
		}
	}
}

func TestP22PartsThatRunsWouldNotWrite(t *testing.T) {
	for _, c := range []struct {
		s     string
		width int
		want  []int
	}{
		{"\x02\x01\x02\x00", 1, []int{1, 0}}, {"\x02\x01\x02\x01", 1, []int{1, 1}}, {"\x06\x02", 2, of(2, 3)},
		{"\x03\xff", 1, of(1, 8)}, {"\x03\x01\x03\x01", 1, []int{1, 0, 0, 0, 0, 0, 0, 0, 1, 0}}, {"\x02\x01\x03\x01", 1, []int{1, 1}},
		{"\x04", 0, of(0, 2)}, {"\x03", 0, of(0, 1)}, {"\x03\x03", 0, of(0, 16)}, {"\x05\x00\x01", 1, join(of(0, 8), of(1, 1))},
	} {
		for _, b := range behind {
			l, used, err := bitrun.ReadRuns(c.s+b, c.width, len(c.want))
			if !slices.Equal(l, c.want) || used != len(c.s) || err != nil {
				t.Errorf("ReadRuns(%q, %d, %d) = %v, %d, %v", c.s+b, c.width, len(c.want), l, used, err)
			}
		}
	}
}

func TestP22NoParts(t *testing.T) {
	for _, c := range []struct {
		s        string
		width, n int
	}{
		{"", 1, 1}, {"", 0, 1}, {"\x02", 1, 1}, {"\x02\x01", 9, 1}, {"\x03", 1, 1}, {"\x03\x01", 2, 8}, {"\x05\x01", 1, 9}, // too early an end
		{"\x02\x01", 1, 2}, {"\x03\x01", 1, 9}, {"\x80", 1, 1}, {"\xff", 1, 1}, {"\x02\x01\x80", 1, 2},
		{"\x00\x01", 1, 1}, {"\x00", 0, 1}, {"\x01", 1, 1}, {"\x01", 0, 1}, {"\x01\x02\x01", 1, 1}, {"\x00\x01\x02\x01", 1, 1}, // no c, no g
		{"\x82\x00\x01", 1, 1},                                                             // no number of P10
		{"\x04\x01", 1, 1}, {"\x12\x01", 1, 8}, {"\x04", 0, 1}, {"\x02\x01\x04\x01", 1, 2}, // the first kind has too many
		{"\x03\xff", 1, 4}, {"\x03\x80", 1, 7}, {"\x03\x02", 1, 1}, {"\x03\x88\xc6\xfa", 3, 7}, // what is left over is not 0
		{"\x05\x01\x00", 1, 8}, {"\x05\x01\x00", 1, 1}, {"\x05", 0, 8}, {"\x07\x00\x00\x00", 1, 16}, // 8 too many
		{"\x02\x02", 1, 1}, {"\x02\x01", 0, 2}, {"\x02\x04", 2, 1}, {"\x02\x00\x02", 9, 1}, {"\x02\x00\x00\x02", 17, 1}, // no room for the number
		{full + "\x01" + full, 0, 5}, {full + "\x01" + full, 1, 5}, {"\xfe\xff\xff\xff\xff\xff\xff\xff\xff\x01\x01", 1, 5}, {"\x80\x80\x80\x80\x80\x80\x80\x80\x80\x01\x01", 1, 5}, // heads that would run over
		{"\x81\x80\x80\x80\x80\x80\x80\x80\x80\x01", 0, 20000}, {"\x81\x80\x80\x80\x80\x80\x80\x80\x10", 8, 8}, {"\x80\x80\x80\x80\x20", 0, 1}, {"\x82\x80\x80\x80\x40", 0, 1},
	} {
		if l, used, err := bitrun.ReadRuns(c.s, c.width, c.n); l != nil || used != 0 || err != api.ErrText {
			t.Errorf("ReadRuns(%q, %d, %d) = %v, %d, %v", c.s, c.width, c.n, l, used, err)
		}
	}
}

func TestP22Bounds(t *testing.T) {
	for _, width := range []int{-1, 33, math.MaxInt, math.MinInt} {
		for _, n := range []int{0, 1} {
			if l, used, err := bitrun.ReadRuns("\x02\x00", width, n); l != nil || used != 0 || err != api.ErrBound {
				t.Error(width, n, l, used, err)
			}
		}
	}
	for _, n := range []int{-1, api.MaxEntries + 1, math.MaxInt, math.MinInt} {
		if l, used, err := bitrun.ReadRuns(wire.Uvarint(2*(api.MaxEntries+1)), 0, n); l != nil || used != 0 || err != api.ErrBound {
			t.Error(n, l, used, err)
		}
	}
	if l, used, err := bitrun.ReadRuns(wire.Uvarint(2*api.MaxEntries), 0, api.MaxEntries); len(l) != api.MaxEntries || used != 3 || err != nil {
		t.Error(len(l), used, err)
	}
}

func TestP22OfNoNumbersNothingIsRead(t *testing.T) {
	for _, s := range behind {
		if l, used, err := bitrun.ReadRuns(s, 3, 0); len(l) != 0 || used != 0 || err != nil {
			t.Error(l, used, err)
		}
	}
}

func TestP22AgainstAnotherReader(t *testing.T) {
	r := rand.New(rand.NewSource(22))
	read := 0
	for range 60000 {
		width, n := r.Intn(4), r.Intn(20)
		if r.Intn(4) == 0 {
			width = r.Intn(api.MaxWidth + 1)
		}
		b := make([]byte, r.Intn(9))
		for i := range b {
			b[i] = byte(r.Intn(256)) >> r.Intn(8)
		}
		s := string(b)
		want, wantUsed, ok := readRunsOf(s, width, n)
		l, used, err := bitrun.ReadRuns(s, width, n)
		if !slices.Equal(l, want) || used != wantUsed || (err == nil) != ok || !ok && err != api.ErrText {
			t.Fatalf("ReadRuns(%q, %d, %d) = %v, %d, %v, want %v, %d, %v", s, width, n, l, used, err, want, wantUsed, ok)
		}
		if ok && n > 0 {
			read++
		}
	}
	if read < 1000 {
		t.Errorf("only %d texts were runs", read)
	}
}

func TestP23Width(t *testing.T) {
	for most, want := range map[int]int{
		math.MinInt: 0, -1: 0, 0: 0, 1: 1, 2: 2, 3: 2, 4: 3, 7: 3, 8: 4, 255: 8, 256: 9, 20000: 15,
		1<<31 - 1: 31, 1 << 31: 32, math.MaxUint32: 32, 1 << 32: 33, math.MaxInt: 63,
	} {
		if got := bitrun.Width(most); got != want {
			t.Errorf("Width(%d) = %d, want %d", most, got, want)
		}
	}
}

func TestP24WhatIsPackedIsUnpacked(t *testing.T) {
	r := rand.New(rand.NewSource(24))
	for width := range api.MaxWidth + 1 {
		ls := append(lists(r, width), of(1<<width-1, api.MaxEntries))
		for _, l := range ls {
			s, err := bitrun.Pack(l, width)
			if err != nil {
				t.Fatal(err)
			}
			for _, b := range behind {
				if got, err := bitrun.Unpack(s+b, width, len(l)); !slices.Equal(got, l) || err != nil {
					t.Fatalf("width %d, %v: %v, %v", width, l, got, err)
				}
			}
		}
	}
}

func TestP24WhatRunsWritesIsRead(t *testing.T) {
	r := rand.New(rand.NewSource(24))
	for width := range api.MaxWidth + 1 {
		ls := append(lists(r, width), of(1<<width-1, api.MaxEntries))
		for _, l := range ls {
			s, err := bitrun.Runs(l, width)
			if err != nil {
				t.Fatal(err)
			}
			for _, b := range behind {
				if got, used, err := bitrun.ReadRuns(s+b, width, len(l)); !slices.Equal(got, l) || used != len(s) || err != nil {
					t.Fatalf("width %d, %v: %v, %d, %v", width, l, got, used, err)
				}
			}
		}
	}
}

// TestP4ListsAreOnlyRead: packing changes no list, nor what lies behind its length.
func TestP4ListsAreOnlyRead(t *testing.T) {
	for name, pack := range packers() {
		memory := []int{1, 1, 1, 1, 1, 1, 1, 1, 1, 0, 1, -7, -8}
		if _, err := pack(memory[:11], 1); err != nil {
			t.Error(name, err)
		}
		if !slices.Equal(memory, []int{1, 1, 1, 1, 1, 1, 1, 1, 1, 0, 1, -7, -8}) {
			t.Error(name, memory)
		}
	}
}
