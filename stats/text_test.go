package stats_test

import (
	"math"
	"math/rand"
	"slices"
	"strings"
	"testing"

	"shredcol/api"
	"shredcol/enc"
	"shredcol/stats"
	"shredcol/wire"
)

// knownTexts of right stats.
func knownTexts() map[string]stats.Stats {
	longest := strings.Repeat("z", api.MaxBytes)
	return map[string]stats.Stats{
		"\x00\x00\x00":                                        {},
		"\x03\x03\x00":                                        {Entries: 3, Nulls: 3},
		"\xac\x02\xac\x02\x00":                                {Entries: 300, Nulls: 300},
		"\xa0\x9c\x01\xa0\x9c\x01\x00":                        {Entries: api.MaxEntries, Nulls: api.MaxEntries},
		"\x01\x00\x01\x01\x01\x00\x01\x01":                    {Entries: 1, Has: true, Min: number(api.Bool, 0), Max: number(api.Bool, 1)},
		"\x03\x01\x01\x01\x01\x01\x01\x01":                    {Entries: 3, Nulls: 1, Has: true, Min: number(api.Bool, 1), Max: number(api.Bool, 1)},
		"\x02\x00\x01\x04\x01\x00\x03\x02ab":                  {Entries: 2, Has: true, Min: text(""), Max: text("ab")},
		"\xa0\x9c\x01\x00\x01\x04\x02\x01z\x65\x64" + longest: {Entries: api.MaxEntries, Has: true, Min: text("z"), Max: text(longest)},
		"\xa0\x9c\x01\x9f\x9c\x01\x01\x02\x04\x00\x00\x00\x80\x04\xff\xff\xff\x7f":                 {Entries: api.MaxEntries, Nulls: api.MaxEntries - 1, Has: true, Min: whole(math.MinInt32), Max: whole(math.MaxInt32)},
		"\x02\x00\x01\x03\x08\x00\x00\x00\x00\x00\x00\x00\x80\x08\xff\xff\xff\xff\xff\xff\xff\x7f": {Entries: 2, Has: true, Min: long(math.MinInt64), Max: long(math.MaxInt64)},
		"\x02\x00\x01\x05\x08\x00\x00\x00\x00\x00\x00\x00\x80\x08\x00\x00\x00\x00\x00\x00\x00\x00": {Entries: 2, Has: true, Min: double(math.Copysign(0, -1)), Max: double(0)},
		"\x02\x00\x01\x05\x08\xff\xff\xff\xff\xff\xff\xff\xff\x08\xff\xff\xff\xff\xff\xff\xff\x7f": {Entries: 2, Has: true, Min: number(api.Double, -1), Max: number(api.Double, math.MaxInt64)},
		"\x02\x00\x01\x05\x08\x00\x00\x00\x00\x00\x00\x00\xc0\x08\x00\x00\x00\x00\x00\x00\xf0\xbf": {Entries: 2, Has: true, Min: double(-2), Max: double(-1)},
	}
}

func TestP91Known(t *testing.T) {
	for want, s := range knownTexts() {
		if got := stats.Text(s); got != want {
			t.Errorf("%+v: %q, not %q", s, got, want)
		}
		for _, behind := range []string{"", "rest", "\x00", "\xff"} {
			if got, used, err := stats.Read(want + behind); got != s || used != len(want) || err != nil {
				t.Errorf("%q: %+v, %d, %v, not %+v", want, got, used, err, s)
			}
		}
	}
}

// TestP91TextOfAnything: what cannot be written is as if it were not there.
func TestP91TextOfAnything(t *testing.T) {
	tooLong := strings.Repeat("z", api.MaxBytes+1)
	for i, c := range []struct {
		s    stats.Stats
		want string
	}{
		{stats.Stats{Entries: -1, Nulls: -300}, "\x00\x00\x00"},
		{stats.Stats{Entries: math.MinInt, Nulls: 7}, "\x00\x07\x00"},
		{stats.Stats{Entries: math.MaxInt}, "\xff\xff\xff\xff\xff\xff\xff\xff\x7f\x00\x00"},
		{stats.Stats{Entries: -1, Nulls: -1, Has: true, Min: whole(1), Max: whole(2)}, "\x00\x00\x01\x02\x04\x01\x00\x00\x00\x04\x02\x00\x00\x00"},
		{stats.Stats{Entries: 1, Nulls: 1, Has: true, Min: whole(2), Max: whole(1)}, "\x01\x01\x01\x02\x04\x02\x00\x00\x00\x04\x01\x00\x00\x00"},
		{stats.Stats{Entries: 2, Nulls: 1, Min: whole(1), Max: whole(2)}, "\x02\x01\x00"},
		{between(number(api.Group, 1), number(api.Group, 1)), "\x02\x00\x00"},
		{between(number(6, 1), number(6, 1)), "\x02\x00\x00"},
		{between(number(-1, 1), number(-1, 1)), "\x02\x00\x00"},
		{between(number(api.Int+256, 1), number(api.Int+256, 1)), "\x02\x00\x00"},
		{between(whole(math.MaxInt32+1), whole(1)), "\x02\x00\x00"},
		{between(whole(1), whole(math.MaxInt32+1)), "\x02\x00\x00"},
		{between(number(api.Bool, 0), number(api.Bool, 2)), "\x02\x00\x00"},
		{between(text("a"), text(tooLong)), "\x02\x00\x00"},
		{between(text(tooLong), text("a")), "\x02\x00\x00"},
		{between(whole(1), long(1)), "\x02\x00\x00"},
		{between(long(1), whole(1)), "\x02\x00\x00"},
		{between(whole(1), api.Value{Kind: api.Int, N: 1, S: "x"}), "\x02\x00\x00"},
		{between(api.Value{Kind: api.Bytes, N: 1}, text("")), "\x02\x00\x00"},
	} {
		if got := stats.Text(c.s); got != c.want {
			t.Errorf("%d: %q, not %q", i, got, c.want)
		}
	}
}

func TestP91ReadErrors(t *testing.T) {
	tooLong := strings.Repeat("z", api.MaxBytes+1)
	one := "\x04\x01\x00\x00\x00"
	for _, s := range []string{
		// Numbers that are none, or too great.
		"", "\x80", "\x80\x00\x00\x00", "\x01\x81\x00\x00", "\xff\xff\xff\xff\xff\xff\xff\xff\xff\x02\x00\x00",
		"\xa1\x9c\x01\xa1\x9c\x01\x00", "\xa1\x9c\x01\x00\x01\x02" + one + one,
		"\xff\xff\xff\xff\xff\xff\xff\xff\xff\x01\x00\x00",
		"\xff\xff\xff\xff\xff\xff\xff\xff\xff\x01\xff\xff\xff\xff\xff\xff\xff\xff\xff\x01\x00",
		"\x00\x01\x00", "\x01\x02\x00", "\x01\x02\x01\x02" + one + one,
		"\x01\xff\xff\xff\xff\xff\xff\xff\xff\xff\x01\x00", "\x01\xff\xff\xff\xff\xff\xff\xff\xff\xff\x01\x01\x02" + one + one,
		// Has is there just if Nulls is less.
		"\x01\x00\x00", "\x00\x00\x01\x02" + one + one, "\x01\x01\x01\x02" + one + one, "\x02\x01\x00",
		"\x02\x01\x02\x02" + one + one, "\x02\x02\x02", "\x02\x01\xff\x02" + one + one,
		// Kinds that are none.
		"\x02\x01\x01\x00" + one + one, "\x02\x01\x01\x00\x00\x00", "\x02\x01\x01\x06" + one + one, "\x02\x01\x01\xff" + one + one, "\x02\x01\x01\x82" + one + one,
		// Values that are none of the kind, or more than one.
		"\x02\x01\x01\x02\x00\x00", "\x02\x01\x01\x02\x03\x01\x00\x00\x04\x01\x00\x00\x00", "\x02\x01\x01\x02\x08\x01\x00\x00\x00\x01\x00\x00\x00" + one,
		"\x02\x01\x01\x03" + one + one, "\x02\x01\x01\x05" + one + one, "\x02\x01\x01\x01\x01\x02\x01\x02", "\x02\x01\x01\x01\x01\x00\x01\x03",
		"\x02\x01\x01\x01\x02\x00\x00\x01\x01", "\x02\x01\x01\x04\x00\x00", "\x02\x01\x01\x04\x01a\x01a", "\x02\x01\x01\x04\x03\x01ab\x03\x01ab",
		"\x02\x01\x01\x04\x02\x80\x00\x01\x00", "\x02\x01\x01\x04\x01\x00" + wire.Text(wire.Text(tooLong)), "\x02\x01\x01\x02\x84\x00\x01\x00\x00\x00" + one,
		// Max is Less than Min.
		"\x02\x01\x01\x02" + one + "\x04\xff\xff\xff\xff", "\x02\x01\x01\x01\x01\x01\x01\x00", "\x02\x01\x01\x04\x02\x01a\x01\x00",
		"\x02\x01\x01\x05\x08\x00\x00\x00\x00\x00\x00\x00\x00\x08\x00\x00\x00\x00\x00\x00\x00\x80",
		"\x02\x01\x01\x05\x08\x00\x00\x00\x00\x00\x00\xf0\xbf\x08\x00\x00\x00\x00\x00\x00\x00\xc0",
	} {
		if got, used, err := stats.Read(s); got != (stats.Stats{}) || used != 0 || err != api.ErrText {
			t.Errorf("%q: %+v, %d, %v", s, got, used, err)
		}
	}
}

// TestP91ReadOfBeginnings: a text that ends too early is none.
func TestP91ReadOfBeginnings(t *testing.T) {
	for s := range knownTexts() {
		for end := range len(s) {
			if got, used, err := stats.Read(s[:end]); got != (stats.Stats{}) || used != 0 || err != api.ErrText {
				t.Errorf("%q: %+v, %d, %v", s[:end], got, used, err)
			}
		}
	}
}

func TestP91WhatIsWrittenIsRead(t *testing.T) {
	r := rand.New(rand.NewSource(91))
	for range 5000 {
		leaf, c := anyColumn(r, kinds[r.Intn(len(kinds))], r.Intn(300))
		want := mustOf(t, leaf, c)
		s := stats.Text(want)
		if got, used, err := stats.Read(s + "rest"[r.Intn(5):]); got != want || used != len(s) || err != nil {
			t.Fatalf("%q: %+v, %d, %v, not %+v", s, got, used, err, want)
		}
	}
}

// spoil: a text with a few bytes changed, put in or taken out.
func spoil(r *rand.Rand, s string) string {
	b := []byte(s)
	for range 1 + r.Intn(3) {
		at := r.Intn(len(b) + 1)
		switch {
		case r.Intn(4) == 0 || at == len(b):
			b = slices.Insert(b, at, byte(r.Intn(256))>>r.Intn(8))
		case r.Intn(3) == 0:
			b = slices.Delete(b, at, at+1)
		default:
			b[at] = byte(r.Intn(256)) >> r.Intn(8)
		}
	}
	return string(b)
}

// TestP91WhatIsReadIsWritten: whatever is read has that text, and is as stats must be.
func TestP91WhatIsReadIsWritten(t *testing.T) {
	r := rand.New(rand.NewSource(910))
	read := 0
	for range 60000 {
		leaf, c := anyColumn(r, kinds[r.Intn(len(kinds))], r.Intn(6))
		s := spoil(r, stats.Text(mustOf(t, leaf, c)))
		got, used, err := stats.Read(s)
		if err != nil {
			if got != (stats.Stats{}) || used != 0 || err != api.ErrText {
				t.Fatalf("%q: %+v, %d, %v", s, got, used, err)
			}
			continue
		}
		read++
		if used < 3 || used > len(s) || stats.Text(got) != s[:used] {
			t.Fatalf("%q: %+v, %d", s, got, used)
		}
		if got.Nulls < 0 || got.Nulls > got.Entries || got.Entries > api.MaxEntries || got.Has != (got.Nulls < got.Entries) {
			t.Fatalf("%q: %+v", s, got)
		}
		if got.Has && (!enc.IsValue(got.Min) || !enc.IsValue(got.Max) || got.Min.Kind != got.Max.Kind || enc.Less(got.Max, got.Min)) {
			t.Fatalf("%q: %+v", s, got)
		}
	}
	if read < 5000 {
		t.Errorf("only %d spoilt texts were read", read)
	}
}
