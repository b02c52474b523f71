package enc_test

import (
	"math"
	"math/bits"
	"math/rand"
	"slices"
	"strings"
	"testing"

	"shredcol/api"
	"shredcol/bitrun"
	"shredcol/enc"
	"shredcol/wire"
)

// dictOf: as P33 says, by looking for each value among those that came.
func dictOf(kind int, l []api.Value) string {
	var unlike []api.Value
	var places []int
	for _, v := range l {
		place := slices.Index(unlike, v)
		if place < 0 {
			place = len(unlike)
			unlike = append(unlike, v)
		}
		places = append(places, place)
	}
	runs, _ := bitrun.Runs(places, widthOf(len(unlike)))
	return wire.Uvarint(uint64(len(unlike))) + wire.Text(plainOf(kind, unlike)) + runs
}

// widthOf: bits of the last place among so many.
func widthOf(many int) int { return bits.Len(uint(max(many, 1) - 1)) }

// readDictOf: as P33 says, rule by rule; ok: whether it is such a text.
func readDictOf(kind int, s string, n int) (l []api.Value, ok bool) {
	many, used, err := wire.ReadUvarint(s)
	if err != nil || many > api.MaxEntries {
		return nil, false
	}
	text, size, err := wire.ReadText(s[used:])
	if err != nil {
		return nil, false
	}
	s = s[used+size:]
	unlike, err := enc.ReadPlain(kind, text, int(many))
	if err != nil {
		return nil, false
	}
	for i, v := range unlike {
		if slices.Contains(unlike[:i], v) { // two are the same
			return nil, false
		}
	}
	places, used, err := bitrun.ReadRuns(s, widthOf(int(many)), n)
	if err != nil || used != len(s) {
		return nil, false
	}
	last := -1
	for i := range unlike {
		first := slices.Index(places, i)
		if first < 0 || first < last { // it never comes, or ahead of the one ahead
			return nil, false
		}
		last = first
	}
	for _, p := range places {
		if p >= len(unlike) {
			return nil, false
		}
		l = append(l, unlike[p])
	}
	return l, true
}

func TestP33DictKnown(t *testing.T) {
	zero, minus := int64(0), int64(math.MinInt64)
	for _, c := range []struct {
		kind int
		l    []api.Value
		want string
	}{
		{api.Bytes, texts("x", "y", "x"), "\x02\x04\x01x\x01y\x03\x02"}, {api.Bytes, texts("", ""), "\x01\x01\x00\x03"}, {api.Bytes, texts("c", "a", "b", "a"), "\x03\x06\x01c\x01a\x01b\x03\x64\x00"},
		{api.Bool, numbers(api.Bool, 1, 0), "\x02\x01\x01\x03\x02"}, {api.Bool, numbers(api.Bool, 0, 1), "\x02\x01\x02\x03\x02"}, {api.Bool, numbers(api.Bool, 0), "\x01\x01\x00\x03"},
		{api.Int, numbers(api.Int, -1, -1, -1, -1, -1, -1, -1, -1), "\x01\x04\xff\xff\xff\xff\x10"}, {api.Long, numbers(api.Long, 2), "\x01\x08\x02\x00\x00\x00\x00\x00\x00\x00\x03"},
		// +0 and -0 are unlike ones; bits of a NaN are like themselves.
		{api.Double, numbers(api.Double, zero, minus, zero), "\x02\x10\x00\x00\x00\x00\x00\x00\x00\x00\x00\x00\x00\x00\x00\x00\x00\x80\x03\x02"}, {api.Double, numbers(api.Double, -1, -1), "\x01\x08\xff\xff\xff\xff\xff\xff\xff\xff\x03"},
		{api.Bool, nil, "\x00\x00"}, {api.Int, nil, "\x00\x00"}, {api.Long, nil, "\x00\x00"}, {api.Bytes, nil, "\x00\x00"}, {api.Double, nil, "\x00\x00"},
	} {
		if s, err := enc.Dict(c.kind, c.l); s != c.want || err != nil {
			t.Errorf("Dict(%d, %v) = %q, %v, want %q", c.kind, c.l, s, err, c.want)
		}
		if l, err := enc.ReadDict(c.kind, c.want, len(c.l)); !slices.Equal(l, c.l) || err != nil {
			t.Errorf("ReadDict(%d, %q) = %v, %v", c.kind, c.want, l, err)
		}
	}
}

func TestP33DictByTheRule(t *testing.T) {
	r := rand.New(rand.NewSource(33))
	for range 10 {
		for _, kind := range kinds {
			for _, l := range lists(r, kind) {
				if s, err := enc.Dict(kind, l); s != dictOf(kind, l) || err != nil {
					t.Fatalf("Dict(%v) = %q, %v, want %q", l, s, err, dictOf(kind, l))
				}
			}
		}
	}
}

func TestP33AnyRunsAreRead(t *testing.T) {
	for _, c := range []struct {
		s    string
		want []api.Value
	}{
		{"\x02\x04\x01x\x01y\x02\x00\x02\x01\x02\x00", texts("x", "y", "x")}, {"\x02\x04\x01x\x01y\x04\x00\x03\x01", texts("x", "x", "y")},
		{"\x01\x02\x01x\x06", texts("x", "x", "x")}, {"\x01\x02\x01x\x02\x02\x02", texts("x", "x", "x")}, {"\x01\x02\x01x\x03", texts("x", "x", "x")},
	} {
		if l, err := enc.ReadDict(api.Bytes, c.s, len(c.want)); !slices.Equal(l, c.want) || err != nil {
			t.Errorf("ReadDict(%q) = %v, %v", c.s, l, err)
		}
	}
}

func TestP33NoDictTexts(t *testing.T) {
	for _, c := range []struct {
		kind, n int
		s       string
	}{
		{api.Bytes, 0, ""}, {api.Bytes, 1, ""}, {api.Bytes, 1, "\x01"}, {api.Bytes, 1, "\x01\x02\x01x"}, {api.Bytes, 1, "\x01\x02\x01"}, {api.Bytes, 1, "\x01\x03\x01x"}, {api.Bytes, 1, "\x80"}, {api.Bytes, 1, "\x01\x80"}, // it ends too early
		{api.Bytes, 0, "\x00\x00\x00"}, {api.Bytes, 0, "\x00\x00\x02"}, {api.Bytes, 1, "\x01\x02\x01x\x03\x00"}, {api.Bytes, 3, "\x02\x04\x01x\x01y\x03\x02\x00"}, // bytes behind it
		{api.Bytes, 1, "\x01\x03\x01xy\x03"}, {api.Bytes, 1, "\x01\x82\x00\x01x\x03"}, {api.Bytes, 1, "\x81\x00\x02\x01x\x03"}, {api.Int, 1, "\x01\x03\x00\x00\x00\x03"}, {api.Bool, 2, "\x02\x01\x06\x03\x02"}, // no plain values
		{api.Bytes, 2, "\x02\x04\x01x\x01x\x03\x02"}, {api.Bool, 2, "\x02\x01\x03\x03\x02"}, {api.Int, 2, "\x02\x08\x01\x00\x00\x00\x01\x00\x00\x00\x03\x02"}, // two are the same
		{api.Bytes, 2, "\x02\x04\x01x\x01y\x03\x01"}, {api.Bytes, 3, "\x03\x06\x01a\x01b\x01c\x03\x18\x00"}, // in another order
		{api.Bytes, 2, "\x02\x04\x01x\x01y\x03\x00"}, {api.Bytes, 2, "\x02\x04\x01x\x01y\x03\x03"}, {api.Bytes, 0, "\x01\x02\x01x"}, {api.Bytes, 1, "\x02\x04\x01x\x01y\x03\x00"}, {api.Bool, 3, "\x02\x01\x02\x06\x00"}, // one never comes
		{api.Bytes, 4, "\x03\x06\x01a\x01b\x01c\x03\xe4\x00"}, {api.Bytes, 1, "\x00\x00\x03"}, {api.Bytes, 8, "\x00\x00\x10"}, // a place of none of them
		{api.Bytes, 3, "\x02\x04\x01x\x01y\x03\x0a"}, {api.Bytes, 1, "\x01\x02\x01x\x00"}, {api.Bytes, 1, "\x01\x02\x01x\x04"}, // no runs
		{api.Bytes, 1, "\xff\xff\xff\xff\xff\xff\xff\xff\xff\x01\x00\x03"}, {api.Bytes, 1, "\x01\xff\xff\xff\xff\xff\xff\xff\xff\xff\x01\x01x\x03"}, {api.Bytes, 1, "\x01\x80\x80\x80\x80\x80\x80\x80\x80\x80\x01\x01x\x03"}, // numbers that would run over
		{api.Bytes, 1, "\x01\x66\x65" + strings.Repeat("x", api.MaxBytes+1) + "\x03"}, // longer than a value may be
	} {
		if l, err := enc.ReadDict(c.kind, c.s, c.n); l != nil || err != api.ErrText {
			t.Errorf("ReadDict(%d, %q, %d) = %v, %v", c.kind, c.s, c.n, l, err)
		}
	}
}

func TestP33AgainstAnotherReader(t *testing.T) {
	r := rand.New(rand.NewSource(330))
	read, not := 0, 0
	for range 80000 {
		kind := kinds[r.Intn(len(kinds))]
		some := []api.Value{oneOf(r, kind), oneOf(r, kind), oneOf(r, kind)}
		var l []api.Value
		for range r.Intn(12) {
			l = append(l, some[r.Intn(3)])
		}
		s := spoil(r, dictOf(kind, l))
		n := max(0, len(l)+r.Intn(3)-1)
		want, ok := readDictOf(kind, s, n)
		got, err := enc.ReadDict(kind, s, n)
		if !slices.Equal(got, want) || (err == nil) != ok || !ok && err != api.ErrText {
			t.Fatalf("ReadDict(%d, %q, %d) = %v, %v, want %v, %v", kind, s, n, got, err, want, ok)
		}
		if ok {
			read++
		} else {
			not++
		}
	}
	if read < 2000 || not < 2000 {
		t.Errorf("%d texts were read, %d were not", read, not)
	}
}
