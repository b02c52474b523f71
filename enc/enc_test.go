package enc_test

import (
	"errors"
	"fmt"
	"math"
	"math/rand"
	"slices"
	"strings"
	"testing"

	"shredcol/api"
	"shredcol/enc"
)

// Bare errors are held by ==, since those without a place must not be wrapped.

// kinds of values, as the chapter names them.
var kinds = []int{api.Bool, api.Int, api.Long, api.Bytes, api.Double}

// noKinds: what is none, a group among them.
var noKinds = []int{api.Group, -1, 6, 7, 100, math.MaxInt, math.MinInt}

// noCounts: what is not from 0 to MaxEntries.
var noCounts = []int{-1, api.MaxEntries + 1, math.MaxInt, math.MinInt, math.MaxInt32, math.MinInt32}

// way of writing values, and the kinds that have it.
type way struct {
	kinds []int
	write func(kind int, l []api.Value) (string, error)
	read  func(kind int, s string, n int) ([]api.Value, error)
}

func ways() map[string]way {
	return map[string]way{
		"Plain": {kinds, enc.Plain, enc.ReadPlain},
		"Dict":  {kinds, enc.Dict, enc.ReadDict},
		"Delta": {[]int{api.Int, api.Long}, enc.Delta, enc.ReadDelta},
		"Prefix": {[]int{api.Bytes}, func(_ int, l []api.Value) (string, error) { return enc.Prefix(stringsOf(l)) },
			func(_ int, s string, n int) ([]api.Value, error) {
				l, err := enc.ReadPrefix(s, n)
				return texts(l...), err
			}},
	}
}

func numbers(kind int, l ...int64) []api.Value {
	var out []api.Value
	for _, n := range l {
		out = append(out, api.Value{Kind: kind, N: n})
	}
	return out
}

func texts(l ...string) []api.Value {
	var out []api.Value
	for _, s := range l {
		out = append(out, api.Value{Kind: api.Bytes, S: s})
	}
	return out
}

func stringsOf(l []api.Value) []string {
	out := make([]string, len(l))
	for i, v := range l {
		out[i] = v.S
	}
	return out
}

func of(v api.Value, many int) []api.Value { return slices.Repeat([]api.Value{v}, many) }

// oneOf the kind: now and then an edge of it.
func oneOf(r *rand.Rand, kind int) api.Value {
	v := api.Value{Kind: kind}
	edge := r.Intn(4) == 0
	switch kind {
	case api.Bool:
		v.N = int64(r.Intn(2))
	case api.Int:
		v.N = int64(int32(r.Uint32()) >> r.Intn(32))
		if edge {
			v.N = []int64{math.MinInt32, math.MaxInt32, 0, -1}[r.Intn(4)]
		}
	case api.Long, api.Double:
		v.N = int64(r.Uint64()) >> r.Intn(64)
		if edge {
			v.N = []int64{math.MinInt64, math.MaxInt64, 0, -1, int64(math.Float64bits(math.NaN()))}[r.Intn(5)]
		}
	case api.Bytes:
		b := make([]byte, r.Intn(6))
		if edge {
			b = make([]byte, api.MaxBytes-r.Intn(3))
		}
		for i := range b {
			b[i] = "aab\x00\xff\x80"[r.Intn(6)]
		}
		v.S = string(b)
	}
	return v
}

// lists of values of a kind: none, one, with many alike, with all unlike, rising.
func lists(r *rand.Rand, kind int) [][]api.Value {
	out := [][]api.Value{nil, {}}
	for _, many := range []int{1, 2, 3, 7, 8, 9, 31, 32, 33, 34, 64, 65, 66, 130} {
		var any, few, near []api.Value
		some := []api.Value{oneOf(r, kind), oneOf(r, kind), oneOf(r, kind)}
		for i := range many {
			any = append(any, oneOf(r, kind))
			few = append(few, some[r.Intn(3)])
			v := api.Value{Kind: kind, N: int64(i % 2)}
			switch kind {
			case api.Bytes:
				v = api.Value{Kind: kind, S: fmt.Sprintf("key/%04d", 7*i)}
			case api.Int, api.Long, api.Double:
				v.N = int64(1000 - 5*i + r.Intn(4))
			}
			near = append(near, v)
		}
		out = append(out, any, few, near, of(some[0], many))
	}
	return out
}

// noValues of a kind: each is wrong by one thing.
func noValues(kind int) []api.Value {
	var out []api.Value
	for k := -1; k <= 7; k++ {
		if k != kind {
			out = append(out, api.Value{Kind: k})
		}
	}
	switch kind {
	case api.Bytes:
		return append(out, api.Value{Kind: kind, N: 1}, api.Value{Kind: kind, N: -1, S: "a"}, api.Value{Kind: kind, S: strings.Repeat("x", api.MaxBytes+1)})
	case api.Bool:
		for _, n := range []int64{-1, 2, 3, math.MaxInt64, math.MinInt64, 1 << 32, 1<<32 + 1} {
			out = append(out, api.Value{Kind: kind, N: n})
		}
	case api.Int:
		for _, n := range []int64{math.MaxInt32 + 1, math.MinInt32 - 1, math.MaxInt64, math.MinInt64, 1 << 32} {
			out = append(out, api.Value{Kind: kind, N: n})
		}
	}
	return append(out, api.Value{Kind: kind, S: "a"}, api.Value{Kind: kind, N: 1, S: "\x00"})
}

// writers that take a kind, Best among them.
func writers() map[string]func(int, []api.Value) (string, error) {
	best := func(kind int, l []api.Value) (string, error) {
		code, s, err := enc.Best(kind, l)
		if err != nil && code != 0 {
			return "code with an error", err
		}
		return s, err
	}
	return map[string]func(int, []api.Value) (string, error){"Plain": enc.Plain, "Dict": enc.Dict, "Delta": enc.Delta, "Best": best}
}

func readers() map[string]func(int, string, int) ([]api.Value, error) {
	out := map[string]func(int, string, int) ([]api.Value, error){"ReadPlain": enc.ReadPlain, "ReadDict": enc.ReadDict, "ReadDelta": enc.ReadDelta}
	for _, code := range []int{-1, 0, 1, 2, 3, 4, math.MaxInt} {
		out[fmt.Sprint("ReadBest ", code)] = func(kind int, s string, n int) ([]api.Value, error) { return enc.ReadBest(kind, code, s, n) }
	}
	return out
}

func TestP30ToP34NoSuchKind(t *testing.T) {
	for _, kind := range noKinds {
		for name, write := range writers() {
			// The kind is told first, also of too many values, and of values that are wrong.
			for _, l := range [][]api.Value{nil, {{Kind: kind}}, numbers(api.Int, 1), of(api.Value{Kind: kind}, api.MaxEntries+1)} {
				if s, err := write(kind, l); s != "" || err != api.ErrKind {
					t.Errorf("%s of kind %d: %q, %v", name, kind, s, err)
				}
			}
		}
		for name, read := range readers() {
			for _, n := range append([]int{0, 1}, noCounts...) {
				if l, err := read(kind, "", n); l != nil || err != api.ErrKind {
					t.Errorf("%s of kind %d, n %d: %v, %v", name, kind, n, l, err)
				}
			}
		}
	}
}

func TestP30ToP34TooMany(t *testing.T) {
	for _, kind := range kinds {
		for name, write := range writers() {
			// Told ahead of values that are wrong, and ahead of a kind that Delta has not.
			for _, v := range []api.Value{{Kind: kind}, {Kind: 9}} {
				if s, err := write(kind, of(v, api.MaxEntries+1)); s != "" || err != api.ErrBound {
					t.Errorf("%s of too many, kind %d: %q, %v", name, kind, s, err)
				}
			}
		}
		for name, read := range readers() {
			for _, n := range noCounts {
				if l, err := read(kind, "\xff", n); l != nil || err != api.ErrBound {
					t.Errorf("%s, kind %d, n %d: %v, %v", name, kind, n, l, err)
				}
			}
		}
	}
}

func TestP30ToP34NoValues(t *testing.T) {
	r := rand.New(rand.NewSource(30))
	for _, kind := range kinds {
		for _, wrong := range noValues(kind) {
			for _, at := range []int{0, 1, 40} {
				var l []api.Value
				for range at {
					l = append(l, oneOf(r, kind))
				}
				l = append(l, wrong, api.Value{Kind: kind}, wrong)
				for name, write := range writers() {
					s, err := write(kind, l)
					var f *api.Fault
					if !errors.As(err, &f) || err != error(f) || f.At != at || f.Err != api.ErrKind || s != "" {
						t.Errorf("%s of %v at %d, kind %d: %q, %v", name, wrong, at, kind, s, err)
					}
				}
			}
		}
	}
}

func TestP30ToP34EdgesAreValues(t *testing.T) {
	edges := slices.Concat(numbers(api.Bool, 0, 1), numbers(api.Int, math.MinInt32, math.MaxInt32, 0), numbers(api.Long, math.MinInt64, math.MaxInt64, 0),
		numbers(api.Double, math.MinInt64, math.MaxInt64, 0), texts("", strings.Repeat("\xff", api.MaxBytes)))
	for _, v := range edges {
		for name, w := range ways() {
			if !slices.Contains(w.kinds, v.Kind) {
				continue
			}
			s, err := w.write(v.Kind, []api.Value{v})
			if err != nil {
				t.Errorf("%s of %v: %v", name, v, err)
			}
			if l, err := w.read(v.Kind, s, 1); !slices.Equal(l, []api.Value{v}) || err != nil {
				t.Errorf("%s of %v: read %v, %v", name, v, l, err)
			}
		}
	}
}

// bestOf: the shortest by going through all ways.
func bestOf(t *testing.T, kind int, l []api.Value) (code int, s string) {
	code = -1
	for i, name := range []string{"Plain", "Dict", "Delta", "Prefix"} {
		w := ways()[name]
		if !slices.Contains(w.kinds, kind) {
			continue
		}
		text, err := w.write(kind, l)
		if err != nil {
			t.Fatal(name, err)
		}
		if code < 0 || len(text) < len(s) {
			code, s = i, text
		}
	}
	return code, s
}

func TestP34BestKnown(t *testing.T) {
	ones := slices.Repeat([]int64{1}, 40)
	for _, c := range []struct {
		l    []api.Value
		code int
		want string
	}{
		{numbers(api.Bool, 1), 0, "\x01"}, {texts("a", "b"), 0, "\x01a\x01b"}, {numbers(api.Double, 5), 0, "\x05\x00\x00\x00\x00\x00\x00\x00"},
		{numbers(api.Bool, ones...), 1, "\x01\x01\x01\x50"}, {numbers(api.Double, 5, 5, 5), 1, "\x01\x08\x05\x00\x00\x00\x00\x00\x00\x00\x03"}, {texts("a", "a", "a"), 1, "\x01\x02\x01a\x03"},
		{numbers(api.Int, 1, 2, 3), 2, "\x02\x02\x00"}, {numbers(api.Long, 9), 2, "\x12"}, {texts("abcdef", "abcdeg"), 3, "\x00\x06abcdef\x05\x01g"},
		// As long ones, the lesser code: Plain, Dict and Prefix; Dict and Prefix; Plain and Delta; Dict and Delta.
		{texts("aa", "aa"), 0, "\x02aa\x02aa"}, {texts("aaa", "aaa"), 1, "\x01\x04\x03aaa\x03"}, {numbers(api.Int, 1<<20), 0, "\x00\x00\x10\x00"},
		{numbers(api.Long, 1<<61, 1<<61), 1, "\x01\x08\x00\x00\x00\x00\x00\x00\x00\x20\x03"},
	} {
		kind := c.l[0].Kind
		if code, s, err := enc.Best(kind, c.l); code != c.code || s != c.want || err != nil {
			t.Errorf("Best(%v) = %d, %q, %v, want %d, %q", c.l, code, s, err, c.code, c.want)
		}
	}
	for _, kind := range kinds {
		if code, s, err := enc.Best(kind, nil); code != 0 || s != "" || err != nil {
			t.Errorf("Best of no values, kind %d: %d, %q, %v", kind, code, s, err)
		}
	}
}

func TestP34BestIsTheShortest(t *testing.T) {
	r := rand.New(rand.NewSource(34))
	for range 20 {
		for _, kind := range kinds {
			for _, l := range lists(r, kind) {
				wantCode, want := bestOf(t, kind, l)
				code, s, err := enc.Best(kind, l)
				if code != wantCode || s != want || err != nil {
					t.Fatalf("Best(%v) = %d, %q, %v, want %d, %q", l, code, s, err, wantCode, want)
				}
			}
		}
	}
}

func TestP34ReadBestReadsByEachWay(t *testing.T) {
	r := rand.New(rand.NewSource(340))
	for code, name := range []string{"Plain", "Dict", "Delta", "Prefix"} {
		w := ways()[name]
		for _, kind := range w.kinds {
			for _, l := range lists(r, kind) {
				s, err := w.write(kind, l)
				if err != nil {
					t.Fatal(name, err)
				}
				if got, err := enc.ReadBest(kind, code, s, len(l)); !slices.Equal(got, l) || err != nil {
					t.Fatalf("ReadBest of %s: %v, %v, want %v", name, got, err, l)
				}
				if got, err := enc.ReadBest(kind, code, s+"\x00", len(l)); got != nil || err != api.ErrText {
					t.Fatalf("ReadBest of %s, a byte behind: %v, %v", name, got, err)
				}
			}
		}
	}
}

func TestP34NoSuchCode(t *testing.T) {
	has := map[int][]int{api.Bool: {0, 1}, api.Int: {0, 1, 2}, api.Long: {0, 1, 2}, api.Bytes: {0, 1, 3}, api.Double: {0, 1}}
	for _, kind := range kinds {
		for _, code := range []int{-1, 0, 1, 2, 3, 4, 5, 256, 258, math.MaxInt, math.MinInt} {
			want := api.ErrText
			if !slices.Contains(has[kind], code) {
				want = api.ErrShape
			}
			// By no way do these two bytes begin a text.
			if l, err := enc.ReadBest(kind, code, "\xff\xff", 1); l != nil || err != want {
				t.Errorf("kind %d, code %d: %v, %v, want %v", kind, code, l, err, want)
			}
		}
	}
}

// ordered: values, each Less than the next one.
func ordered() []api.Value {
	var doubles []int64
	for _, x := range []float64{math.Inf(1), math.MaxFloat64, 2, 1.5, 1, math.SmallestNonzeroFloat64, 0} {
		doubles = append(doubles, int64(math.Float64bits(x)))
	}
	nans := []int64{0x7ff0000000000001, 0x7ff8000000000000, 0x7ff8000000000001, math.MaxInt64}
	rising := append(slices.Clone(doubles), nans...)
	slices.Sort(rising)
	var falling []int64
	for _, bits := range rising {
		falling = append(falling, bits|math.MinInt64)
	}
	slices.Reverse(falling)
	return slices.Concat(numbers(api.Bool, 0, 1), numbers(api.Int, math.MinInt32, -2, -1, 0, 1, math.MaxInt32),
		numbers(api.Long, math.MinInt64, math.MinInt64+1, -1, 0, 1, math.MaxInt64-1, math.MaxInt64),
		texts("", "\x00", "\x00\x00", "\x01", "a", "a\x00", "aa", "ab", "b", "\x7f", "\x80", "\xff", "\xff\x00"),
		numbers(api.Double, slices.Concat(falling, rising)...))
}

func TestP35Less(t *testing.T) {
	l := ordered()
	for i, a := range l {
		for k, b := range l {
			if enc.Less(a, b) != (i < k) {
				t.Errorf("Less(%v, %v) = %v", a, b, i >= k)
			}
		}
	}
}

func TestP35DoublesAsTheirNumbers(t *testing.T) {
	r := rand.New(rand.NewSource(35))
	for range 20000 {
		a, b := r.NormFloat64()*math.Pow(10, float64(r.Intn(600)-300)), r.NormFloat64()
		v := numbers(api.Double, int64(math.Float64bits(a)), int64(math.Float64bits(b)))
		if enc.Less(v[0], v[1]) != (a < b) || enc.Less(v[1], v[0]) != (b < a) {
			t.Fatal(a, b)
		}
	}
}

func TestP36LessIsAnOrder(t *testing.T) {
	r := rand.New(rand.NewSource(36))
	l := ordered()
	for range 60 {
		l = append(l, oneOf(r, kinds[r.Intn(len(kinds))]))
	}
	for _, a := range l {
		for _, b := range l {
			less, more := enc.Less(a, b), enc.Less(b, a)
			if less && more || (a == b) == (less || more) {
				t.Fatalf("%v and %v: %v, %v", a, b, less, more)
			}
			for _, c := range l {
				if less && enc.Less(b, c) && !enc.Less(a, c) {
					t.Fatalf("%v, %v, %v", a, b, c)
				}
			}
		}
	}
}

func TestP36WhatIsWrittenIsRead(t *testing.T) {
	r := rand.New(rand.NewSource(360))
	for name, w := range ways() {
		for _, kind := range w.kinds {
			for range 10 {
				for _, l := range lists(r, kind) {
					s, err := w.write(kind, l)
					if err != nil {
						t.Fatal(name, err)
					}
					if got, err := w.read(kind, s, len(l)); !slices.Equal(got, l) || err != nil {
						t.Fatalf("%s: %v, %v, want %v", name, got, err, l)
					}
				}
			}
		}
	}
}

// TestP36AsManyAsMayBe: also what is longer than MaxData is read again.
func TestP36AsManyAsMayBe(t *testing.T) {
	for name, w := range ways() {
		for _, kind := range w.kinds {
			l := make([]api.Value, api.MaxEntries)
			for i := range l {
				l[i] = api.Value{Kind: kind, N: int64(i % 2)}
				switch kind {
				case api.Int, api.Long, api.Double:
					l[i].N = int64(int32(uint32(i) * 2654435761))
				case api.Bytes:
					l[i] = api.Value{Kind: kind, S: fmt.Sprintf("%0100d", i)}
				}
			}
			s, err := w.write(kind, l)
			if err != nil {
				t.Fatal(name, err)
			}
			if got, err := w.read(kind, s, len(l)); !slices.Equal(got, l) || err != nil {
				t.Fatalf("%s of %d bytes, kind %d: %d values, %v", name, len(s), kind, len(got), err)
			}
		}
	}
}

// spoil: a text with a few bytes changed, put in or taken out.
func spoil(r *rand.Rand, s string) string {
	b := []byte(s)
	for range 1 + r.Intn(3) {
		at := r.Intn(len(b) + 1)
		switch {
		case r.Intn(4) == 0 || at == len(b):
			b = slices.Insert(b, at, byte(r.Intn(256))>>r.Intn(8))
		case r.Intn(3) == 0:
			b = slices.Delete(b, at, at+1)
		case r.Intn(2) == 0:
			b[at] = byte(r.Intn(256)) >> r.Intn(8)
		default:
			b[at] ^= 1 << r.Intn(8)
		}
	}
	return string(b)
}

// TestP36WhatIsReadIsWritten: whatever text is read is what is written (Dict's runs aside), and values that are read are values.
func TestP36WhatIsReadIsWritten(t *testing.T) {
	r := rand.New(rand.NewSource(361))
	for name, w := range ways() {
		for _, kind := range w.kinds {
			read := 0
			for range 150 {
				for _, l := range lists(r, kind)[:30] {
					s, _ := w.write(kind, l)
					s = spoil(r, s)
					n := max(0, len(l)+r.Intn(3)-1)
					got, err := w.read(kind, s, n)
					if err != nil {
						if got != nil || err != api.ErrText {
							t.Fatalf("%s(%q, %d): %v, %v", name, s, n, got, err)
						}
						continue
					}
					read++
					back, err := w.write(kind, got)
					if len(got) != n || err != nil || name != "Dict" && back != s {
						t.Fatalf("%s(%q, %d): %v is written as %q, %v", name, s, n, got, back, err)
					}
				}
			}
			if read < 100 {
				t.Errorf("%s of kind %d: only %d spoilt texts were read", name, kind, read)
			}
		}
	}
}

func TestP36BestIsNeverLongerThanPlain(t *testing.T) {
	r := rand.New(rand.NewSource(362))
	for _, kind := range kinds {
		for _, l := range lists(r, kind) {
			plain, _ := enc.Plain(kind, l)
			code, s, err := enc.Best(kind, l)
			if len(s) > len(plain) || err != nil {
				t.Fatalf("kind %d: %d bytes, plain %d, %v", kind, len(s), len(plain), err)
			}
			if got, err := enc.ReadBest(kind, code, s, len(l)); !slices.Equal(got, l) || err != nil {
				t.Fatalf("kind %d: %v, %v, want %v", kind, got, err, l)
			}
		}
	}
}

// TestP1WhateverIsGiven: random texts and numbers make no reader panic, and errors come with nothing else.
func TestP1WhateverIsGiven(t *testing.T) {
	r := rand.New(rand.NewSource(1))
	for range 40000 {
		b := make([]byte, r.Intn(14))
		for i := range b {
			b[i] = byte(r.Intn(256)) >> r.Intn(8)
		}
		kind, n := r.Intn(8)-1, r.Intn(40)-2
		if r.Intn(8) == 0 {
			n = noCounts[r.Intn(len(noCounts))]
		}
		for code := range 5 {
			if l, err := enc.ReadBest(kind, code, string(b), n); err != nil && l != nil || err == nil && len(l) != n {
				t.Fatalf("ReadBest(%d, %d, %q, %d) = %v, %v", kind, code, b, n, l, err)
			}
		}
		if l, err := enc.ReadPrefix(string(b), n); err != nil && l != nil || err == nil && len(l) != n {
			t.Fatalf("ReadPrefix(%q, %d) = %v, %v", b, n, l, err)
		}
	}
}

// TestP4ListsAreOnlyRead: writing changes no list, nor what lies behind its length.
func TestP4ListsAreOnlyRead(t *testing.T) {
	r := rand.New(rand.NewSource(4))
	for name, w := range ways() {
		for _, kind := range w.kinds {
			for _, l := range lists(r, kind) {
				memory := append(slices.Clone(l), api.Value{Kind: 9, N: 7, S: "behind"})
				if _, err := w.write(kind, memory[:len(l)]); err != nil {
					t.Fatal(name, err)
				}
				if !slices.Equal(memory[:len(l)], l) || memory[len(l)].S != "behind" {
					t.Fatal(name, memory)
				}
			}
		}
	}
}

// TestP4AnswersAreNew: what is written into one answer does not show in the next one.
func TestP4AnswersAreNew(t *testing.T) {
	for name, w := range ways() {
		for _, kind := range w.kinds {
			l := []api.Value{{Kind: kind}, {Kind: kind}, {Kind: kind}}
			s, _ := w.write(kind, l)
			first, _ := w.read(kind, s, 3)
			first[0] = api.Value{Kind: 9}
			if again, err := w.read(kind, s, 3); !slices.Equal(again, l) || first[1] != l[1] || err != nil {
				t.Error(name, kind, again, err)
			}
		}
	}
}

func TestP30IsValue(t *testing.T) {
	for _, v := range []api.Value{{}, {Kind: -1}, {Kind: 6}, {Kind: api.Bool, N: 2}, {Kind: api.Bool, S: "x"}, {Kind: api.Int, N: 1 << 31}, {Kind: api.Int, N: -1<<31 - 1}, {Kind: api.Long, S: "x"}, {Kind: api.Double, S: "x"}, {Kind: api.Bytes, N: 1}, {Kind: api.Bytes, S: string(make([]byte, api.MaxBytes+1))}} {
		if enc.IsValue(v) {
			t.Errorf("%+v is none", v)
		}
	}
	for _, v := range []api.Value{{Kind: api.Bool}, {Kind: api.Bool, N: 1}, {Kind: api.Int, N: 1<<31 - 1}, {Kind: api.Int, N: -1 << 31}, {Kind: api.Long, N: 1 << 40}, {Kind: api.Double, N: -1}, {Kind: api.Bytes}, {Kind: api.Bytes, S: string(make([]byte, api.MaxBytes))}} {
		if !enc.IsValue(v) {
			t.Errorf("%+v is one", v)
		}
	}
}
