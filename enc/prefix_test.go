package enc_test

import (
	"math/rand"
	"slices"
	"strings"
	"testing"

	"shredcol/api"
	"shredcol/enc"
	"shredcol/wire"
)

// prefixOf: as P32 says, by trying the longest beginning first.
func prefixOf(l []string) string {
	out, ahead := "", ""
	for _, text := range l {
		same := len(text)
		for !strings.HasPrefix(ahead, text[:same]) {
			same--
		}
		out += wire.Uvarint(uint64(same)) + wire.Text(text[same:])
		ahead = text
	}
	return out
}

// readPrefixOf: what prefixOf writes as s; ok: whether there is such.
func readPrefixOf(s string, n int) (l []string, ok bool) {
	rest, ahead := s, ""
	for range n {
		same, used, err := wire.ReadUvarint(rest)
		if err != nil || same > uint64(len(ahead)) {
			return nil, false
		}
		text, size, err := wire.ReadText(rest[used:])
		if err != nil {
			return nil, false
		}
		ahead = ahead[:same] + text
		if len(ahead) > api.MaxBytes {
			return nil, false
		}
		l = append(l, ahead)
		rest = rest[used+size:]
	}
	if prefixOf(l) != s {
		return nil, false
	}
	return l, true
}

func TestP32PrefixKnown(t *testing.T) {
	full := strings.Repeat("x", api.MaxBytes)
	for _, c := range []struct {
		l    []string
		want string
	}{
		{nil, ""}, {[]string{""}, "\x00\x00"}, {[]string{"", ""}, "\x00\x00\x00\x00"}, {[]string{"abc", "abd", "b"}, "\x00\x03abc\x02\x01d\x00\x01b"},
		{[]string{"ab", "ab", "abc", "ab", "", "a"}, "\x00\x02ab\x02\x00\x02\x01c\x02\x00\x00\x00\x00\x01a"}, {[]string{"\xff\x00", "\xff\x01"}, "\x00\x02\xff\x00\x01\x01\x01"},
		// The one ahead counts, not those ahead of it.
		{[]string{"aaa", "b", "aaa"}, "\x00\x03aaa\x00\x01b\x00\x03aaa"}, {[]string{full, full}, "\x00\x64" + full + "\x64\x00"},
	} {
		if s, err := enc.Prefix(c.l); s != c.want || err != nil {
			t.Errorf("Prefix(%q) = %q, %v, want %q", c.l, s, err, c.want)
		}
		if l, err := enc.ReadPrefix(c.want, len(c.l)); !slices.Equal(l, c.l) || err != nil {
			t.Errorf("ReadPrefix(%q) = %q, %v", c.want, l, err)
		}
	}
}

func TestP32PrefixByTheRule(t *testing.T) {
	r := rand.New(rand.NewSource(32))
	for range 20 {
		for _, l := range lists(r, api.Bytes) {
			texts := stringsOf(l)
			if s, err := enc.Prefix(texts); s != prefixOf(texts) || err != nil {
				t.Fatalf("Prefix(%q) = %q, %v, want %q", texts, s, err, prefixOf(texts))
			}
		}
	}
}

func TestP32Bounds(t *testing.T) {
	long := strings.Repeat("x", api.MaxBytes+1)
	for _, l := range [][]string{{long}, {"a", long}, {long[1:], long}, make([]string, api.MaxEntries+1)} {
		if s, err := enc.Prefix(l); s != "" || err != api.ErrBound {
			t.Errorf("Prefix of %d: %q, %v", len(l), s, err)
		}
	}
	for _, n := range noCounts {
		for _, s := range []string{"", "\x00\x00", "\xff"} {
			if l, err := enc.ReadPrefix(s, n); l != nil || err != api.ErrBound {
				t.Errorf("ReadPrefix(%q, %d) = %v, %v", s, n, l, err)
			}
		}
	}
	if s, err := enc.Prefix(make([]string, api.MaxEntries)); len(s) != 2*api.MaxEntries || err != nil {
		t.Error(len(s), err)
	}
}

func TestP32NoPrefixTexts(t *testing.T) {
	full := strings.Repeat("x", api.MaxBytes)
	for _, c := range []struct {
		s string
		n int
	}{
		{"\x00", 0}, {"", 1}, {"\x00", 1}, {"\x00\x01", 1}, {"\x00\x01ab", 1}, {"\x00\x01a\x00", 1}, {"\x00\x01a", 2}, {"\x00\x01a\x00", 2}, {"\x80\x00\x00", 1}, {"\x00\x80\x00", 1}, // of all of it
		{"\x01\x00", 1}, {"\x01\x01a", 1}, {"\x00\x01a\x02\x00", 2}, {"\x00\x01a\x02\x01b", 2}, {"\x00\x01a\xff\xff\xff\xff\xff\xff\xff\xff\xff\x01\x00", 2}, {"\x00\x01a\x81\x80\x80\x80\x80\x80\x80\x80\x80\x01\x00", 2}, // more in common than the one ahead has
		{"\x00\x01a\x00\x01a", 2}, {"\x00\x02ab\x01\x01b", 2}, {"\x00\x02ab\x00\x02ac", 2}, // more are in common
		{"\x00\x65x" + full, 1}, {"\x00\x64" + full + "\x64\x01y", 2}, {"\x00\x02xy\x01\x64" + full, 2}, // longer than a value may be
		{"\x00\x00", api.MaxEntries},
	} {
		if l, err := enc.ReadPrefix(c.s, c.n); l != nil || err != api.ErrText {
			t.Errorf("ReadPrefix(%q, %d) = %q, %v", c.s, c.n, l, err)
		}
	}
}

func TestP32AgainstAnotherReader(t *testing.T) {
	r := rand.New(rand.NewSource(320))
	read, not := 0, 0
	for range 60000 {
		var l []string
		for range r.Intn(6) {
			l = append(l, oneOf(r, api.Bytes).S)
		}
		s := spoil(r, prefixOf(l))
		n := max(0, len(l)+r.Intn(3)-1)
		want, ok := readPrefixOf(s, n)
		got, err := enc.ReadPrefix(s, n)
		if !slices.Equal(got, want) || (err == nil) != ok || !ok && err != api.ErrText {
			t.Fatalf("ReadPrefix(%q, %d) = %q, %v, want %q, %v", s, n, got, err, want, ok)
		}
		if ok {
			read++
		} else {
			not++
		}
	}
	if read < 2000 || not < 2000 {
		t.Errorf("%d texts were read, %d were not", read, not)
	}
}

// TestP3P4PrefixReadsTheListAlone: what lies behind the length is neither read nor written.
func TestP3P4PrefixReadsTheListAlone(t *testing.T) {
	memory := []string{"ab", "ac", strings.Repeat("x", api.MaxBytes+1)}
	if s, err := enc.Prefix(memory[:2]); s != "\x00\x02ab\x01\x01c" || err != nil {
		t.Errorf("%q, %v", s, err)
	}
	if memory[0] != "ab" || memory[1] != "ac" || len(memory[2]) != api.MaxBytes+1 {
		t.Error(memory)
	}
}
