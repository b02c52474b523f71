package disk_test

import (
	"strconv"
	"strings"
	"testing"

	"shredcol/api"
)

func TestP161Append(t *testing.T) {
	d := diskOf(10)
	for i, c := range []struct {
		name, s string
		want    error
		told    string
	}{
		{"a", "abc", nil, "a abc; 3 3"},
		{"b", "\x00", nil, "a abc, b \x00; 4 4"},
		{"a", "\xff\n", nil, "a abc\xff\n, b \x00; 6 6"},
		{"a", "", nil, "a abc\xff\n, b \x00; 6 6"},
		{"c", "", nil, "a abc\xff\n, b \x00; 6 6"}, // no byte, so no file
		{"b", "abcde", api.ErrSpace, "a abc\xff\n, b \x00; 6 6"},
		{"c", "abcde", api.ErrSpace, "a abc\xff\n, b \x00; 6 6"},
		{"c", "abcd", nil, "a abc\xff\n, b \x00, c abcd; 10 10"}, // just room
		{"c", "x", api.ErrSpace, "a abc\xff\n, b \x00, c abcd; 10 10"},
		{"d", "x", api.ErrSpace, "a abc\xff\n, b \x00, c abcd; 10 10"},
		{"d", "", nil, "a abc\xff\n, b \x00, c abcd; 10 10"},
		{"", "", api.ErrName, "a abc\xff\n, b \x00, c abcd; 10 10"},
	} {
		mustTell(t, d.Append(c.name, c.s), c.want)
		if got := told(d); got != c.told {
			t.Errorf("%d: %q, not %q", i, got, c.told)
		}
	}
}

// TestP161AppendByteByByte: what power there is for is written, and nothing behind it.
func TestP161AppendByteByByte(t *testing.T) {
	const s = "defgh"
	for n := range len(s) + 3 {
		for name, ahead := range map[string]string{"a": "abc", "new": ""} {
			d := diskOf(20, "a abc")
			mustTell(t, d.Cut(n), nil)
			err := d.Append(name, s)
			if done := min(n, len(s)); (err == nil) != (n >= len(s)) || err != nil && err != api.ErrNone || d.Steps() != 3+done || d.Used() != 3+done {
				t.Errorf("%s, %d: %v, %s", name, n, err, told(d))
			}
			got, err := d.Read(name)
			if want := ahead + s[:min(n, len(s))]; got != want || (err == nil) != (want != "") {
				t.Errorf("%s, %d: %q, %v, not %q", name, n, got, err, want)
			}
		}
	}
}

// TestP161FileMadeWithFirstByte: without power for it there is none.
func TestP161FileMadeWithFirstByte(t *testing.T) {
	d := diskOf(20)
	mustTell(t, d.Cut(0), nil)
	mustNotChange(t, d, api.ErrNone, func() error { return d.Append("a", "xy") })
	mustNotChange(t, d, nil, func() error { return d.Append("a", "") })
	if s, err := d.Read("a"); s != "" || err != api.ErrName {
		t.Error(s, err)
	}
	mustTell(t, d.Cut(1), nil)
	mustTell(t, d.Append("a", "xy"), api.ErrNone)
	mustBe(t, d, "a x; 1 1")
}

func TestP161TooManyFiles(t *testing.T) {
	d := fullOf(100)
	before := told(d)
	mustNotChange(t, d, api.ErrBound, func() error { return d.Append("f40", "x") })
	mustNotChange(t, d, nil, func() error { return d.Append("f40", "") })
	mustTell(t, d.Append("f39", "y"), nil) // it is one of them
	mustTell(t, d.Rename("f0", "f40"), nil)
	mustNotChange(t, d, api.ErrBound, func() error { return d.Append("f0", "x") })
	mustTell(t, d.Rename("f40", "f1"), nil) // one less
	mustTell(t, d.Append("f0", "x"), nil)
	mustNotChange(t, d, api.ErrBound, func() error { return d.Append("f40", "x") })
	mustTell(t, d.Remove("f39"), nil)
	mustTell(t, d.Append("f39", "x"), nil)
	if s := told(d); strings.Split(s, ";")[0] != strings.Split(before, ";")[0] || len(d.Names()) != api.MaxFiles {
		t.Error(s)
	}
}

// TestP161AppendsFirstError: of several, the one that is named first.
func TestP161AppendsFirstError(t *testing.T) {
	const long = "1234567890123"
	for i, c := range []struct {
		quota, cut int
		name, s    string
		want       error
	}{
		{40, 0, "F", long, api.ErrName}, // also too many files, no room, no power
		{40, 0, "F", "", api.ErrName},
		{40, 0, "new", long, api.ErrBound}, // also no room, no power
		{99, 0, "new", long, api.ErrBound}, // also no power
		{40, 9, "new", "x", api.ErrBound},  // also no room
		{45, 0, "f7", long, api.ErrSpace},  // also no power
		{45, 3, "f7", long, api.ErrSpace},  // no power for those that have room
		{45, 5, "f7", long, api.ErrSpace},
		{40, 0, "f7", "x", api.ErrSpace},
		{41, 0, "f7", "x", api.ErrNone},
		{40, 0, "f7", "", nil},
		{40, 0, "new", "", nil},
		{41, 1, "f7", "x", nil},
	} {
		d := fullOf(c.quota)
		mustTell(t, d.Cut(c.cut), nil)
		before, s := told(d), must(d.Read("f7"))
		if err := d.Append(c.name, c.s); err != c.want {
			t.Errorf("%d: %v, not %v", i, err, c.want)
		}
		if c.want == nil && c.s != "" {
			s += c.s
		} else if got := told(d); got != before {
			t.Errorf("%d: %q, not %q", i, got, before)
		}
		if got := must(d.Read("f7")); got != s {
			t.Errorf("%d: %q, not %q", i, got, s)
		}
	}
}

func TestP161Rename(t *testing.T) {
	for _, c := range []struct {
		from, to string
		want     error
		told     string
	}{
		{"a", "c", nil, "b z, c xy; 3 4"},
		{"a", "b", nil, "b xy; 2 4"}, // what b was is gone
		{"b", "a", nil, "a z; 1 4"},
		{"a", "a", nil, "a xy, b z; 3 4"}, // nothing happens, but it is a step
		{"a", "aaaaaaaaaaaa", nil, "aaaaaaaaaaaa xy, b z; 3 4"},
		{"a", "aaaaaaaaaaaaa", api.ErrName, "a xy, b z; 3 3"},
		{"a", "", api.ErrName, "a xy, b z; 3 3"},
		{"a", "A", api.ErrName, "a xy, b z; 3 3"},
		{"c", "d", api.ErrName, "a xy, b z; 3 3"},
		{"c", "a", api.ErrName, "a xy, b z; 3 3"},
		{"c", "c", api.ErrName, "a xy, b z; 3 3"},
		{"", "c", api.ErrName, "a xy, b z; 3 3"},
		{"", "", api.ErrName, "a xy, b z; 3 3"},
	} {
		d := diskOf(20, "a xy", "b z")
		mustTell(t, d.Rename(c.from, c.to), c.want)
		mustBe(t, d, c.told)
	}
}

// TestP161RenameWithoutPower: names first, then the step, also to itself.
func TestP161RenameWithoutPower(t *testing.T) {
	for _, c := range []struct {
		from, to string
		want     error
	}{
		{"a", "c", api.ErrNone}, {"a", "b", api.ErrNone}, {"a", "a", api.ErrNone}, {"b", "a", api.ErrNone},
		{"a", "A", api.ErrName}, {"c", "d", api.ErrName}, {"c", "c", api.ErrName}, {"c", "a", api.ErrName}, {"", "", api.ErrName},
	} {
		d := diskOf(20, "a xy", "b z")
		mustTell(t, d.Cut(0), nil)
		mustNotChange(t, d, c.want, func() error { return d.Rename(c.from, c.to) })
	}
	d := diskOf(20, "a xy")
	mustTell(t, d.Cut(2), nil)
	mustTell(t, d.Rename("a", "a"), nil)
	mustTell(t, d.Rename("a", "b"), nil)
	mustTell(t, d.Rename("b", "b"), api.ErrNone)
	mustBe(t, d, "b xy; 2 4")
}

// TestP161RenamedApart: the old name is another file's, which shares nothing.
func TestP161RenamedApart(t *testing.T) {
	for many := 1; many < 70; many++ {
		d := diskOf(400)
		for range many {
			mustTell(t, d.Append("a", "."), nil)
		}
		mustTell(t, d.Rename("a", "b"), nil)
		if _, err := d.Read("a"); err != api.ErrName {
			t.Error(err)
		}
		mustTell(t, d.Append("a", strings.Repeat("x", many)), nil)
		mustTell(t, d.Append("a", "1"), nil)
		mustTell(t, d.Append("b", "2"), nil)
		if a, b := must(d.Read("a")), must(d.Read("b")); a != strings.Repeat("x", many)+"1" || b != strings.Repeat(".", many)+"2" {
			t.Error(a, b)
		}
	}
}

func TestP161RenameWhereAllIsFull(t *testing.T) {
	d := fullOf(api.MaxFiles)
	mustTell(t, d.Rename("f3", "g"), nil)
	mustTell(t, d.Rename("g", "f4"), nil)
	mustTell(t, d.Rename("f5", "f5"), nil)
	if len(d.Names()) != api.MaxFiles-1 || d.Used() != api.MaxFiles-1 || d.Steps() != api.MaxFiles+3 {
		t.Error(told(d))
	}
}

func TestP161Remove(t *testing.T) {
	d := diskOf(20, "a xy", "b z")
	mustNotChange(t, d, api.ErrName, func() error { return d.Remove("c") })
	mustNotChange(t, d, api.ErrName, func() error { return d.Remove("") })
	mustTell(t, d.Remove("a"), nil)
	mustBe(t, d, "b z; 1 4")
	mustNotChange(t, d, api.ErrName, func() error { return d.Remove("a") })
	mustTell(t, d.Append("a", "p"), nil) // nothing of the one that was is left
	mustBe(t, d, "a p, b z; 2 5")
	mustTell(t, d.Cut(1), nil)
	mustTell(t, d.Remove("b"), nil)
	mustNotChange(t, d, api.ErrNone, func() error { return d.Remove("a") })
	mustNotChange(t, d, api.ErrName, func() error { return d.Remove("b") }) // ahead of ErrNone
	d.Mend()
	mustTell(t, d.Remove("a"), nil)
	mustBe(t, d, "; 0 7")
}

// TestP161RoomAgain: what is removed, or renamed over, makes room.
func TestP161RoomAgain(t *testing.T) {
	d := diskOf(10, "a 12345", "b 67890")
	mustNotChange(t, d, api.ErrSpace, func() error { return d.Append("c", "x") })
	mustTell(t, d.Rename("a", "b"), nil)
	mustNotChange(t, d, api.ErrSpace, func() error { return d.Append("c", "123456") })
	mustTell(t, d.Append("c", "xxxxx"), nil)
	mustTell(t, d.Remove("b"), nil)
	mustTell(t, d.Append("c", "yyyyy"), nil)
	mustBe(t, d, "c xxxxxyyyyy; 10 22")
}

// TestP161ManyShortAppends: a file grows byte by byte to all that a disk may have.
func TestP161ManyShortAppends(t *testing.T) {
	d := diskOf(api.MaxQuota)
	for i := range api.MaxQuota {
		if err := d.Append("a", string([]byte{byte(i % 251)})); err != nil {
			t.Fatal(i, err)
		}
	}
	mustTell(t, d.Append("a", "x"), api.ErrSpace)
	s := must(d.Read("a"))
	if len(s) != api.MaxQuota || d.Used() != api.MaxQuota || d.Steps() != api.MaxQuota {
		t.Fatal(len(s), d.Used(), d.Steps())
	}
	for i := range len(s) {
		if s[i] != byte(i%251) {
			t.Fatal(i, strconv.Itoa(int(s[i])))
		}
	}
}
