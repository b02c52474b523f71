package disk_test

import (
	"math"
	"slices"
	"strconv"
	"strings"
	"testing"

	"shredcol/api"
	"shredcol/disk"
)

// Errors here have no place, so they are held against the bare ones by ==.

func must[T any](v T, err error) T {
	if err != nil {
		panic(err)
	}
	return v
}

// diskOf files, each told by its name, a blank and its text.
func diskOf(quota int, files ...string) *disk.Disk {
	d := must(disk.New(quota))
	for _, f := range files {
		name, s, _ := strings.Cut(f, " ")
		if err := d.Append(name, s); err != nil {
			panic(err)
		}
	}
	return d
}

// fullOf files: f0, f1, .. with one byte each, as many as can be.
func fullOf(quota int) *disk.Disk {
	d := diskOf(quota)
	for i := range api.MaxFiles {
		if err := d.Append("f"+strconv.Itoa(i), "x"); err != nil {
			panic(err)
		}
	}
	return d
}

// told: the files of a disk, in the order of its names, with `, ` between; its bytes and steps.
func told(d *disk.Disk) string {
	var l []string
	for _, name := range d.Names() {
		l = append(l, name+" "+must(d.Read(name)))
	}
	return strings.Join(l, ", ") + "; " + strconv.Itoa(d.Used()) + " " + strconv.Itoa(d.Steps())
}

func mustBe(t *testing.T, d *disk.Disk, want string) {
	t.Helper()
	if got := told(d); got != want {
		t.Errorf("%q, not %q", got, want)
	}
}

func mustTell(t *testing.T, got, want error) {
	t.Helper()
	if got != want {
		t.Errorf("%v, not %v", got, want)
	}
}

// mustNotChange: a call that tells this error, and behind which all is as it was.
func mustNotChange(t *testing.T, d *disk.Disk, want error, call func() error) {
	t.Helper()
	before := told(d)
	mustTell(t, call(), want)
	mustBe(t, d, before)
}

// wrongNames are none of a file's.
var wrongNames = []string{
	"", " ", "a ", " a", "A", "aB", "Z", "a b", "a-b", "a_b", "a.b", "a/b", "/", "`", "{", "@", "[", ":", "a\x00", "\x00", "\n", "\xff", "\x80",
	"\u00e9", "\u017f", "\u0430", "\uff41", "\u0663", "\uff11", "thirteen13131", "aaaaaaaaaaaaa", "1234567890123", strings.Repeat("a", 1000), strings.Repeat("\u00e9", 6),
}

var goodNames = []string{"a", "z", "0", "9", "m5", "5m", "azz", "twelve121212", "000000000000", "aaaaaaaaaaaa"}

func TestP160Quota(t *testing.T) {
	for _, quota := range []int{-1, -api.MaxQuota, math.MinInt, api.MaxQuota + 1, 2 * api.MaxQuota, math.MaxInt} {
		if d, err := disk.New(quota); d != nil || err != api.ErrBound {
			t.Error(quota, d, err)
		}
	}
	for _, quota := range []int{0, 1, 2, 40, 41, 12345, api.MaxQuota - 1, api.MaxQuota} {
		d, err := disk.New(quota)
		if err != nil {
			t.Fatal(quota, err)
		}
		mustBe(t, d, "; 0 0")
		mustNotChange(t, d, api.ErrSpace, func() error { return d.Append("a", strings.Repeat("x", quota+1)) })
		mustTell(t, d.Append("a", strings.Repeat("x", quota)), nil)
		if d.Used() != quota || d.Steps() != quota {
			t.Error(quota, d.Used(), d.Steps())
		}
		mustTell(t, d.Append("a", "y"), api.ErrSpace)
		mustTell(t, d.Append("b", "y"), api.ErrSpace)
	}
}

func TestP160Names(t *testing.T) {
	for _, name := range goodNames {
		d := diskOf(10)
		mustTell(t, d.Append(name, "x"), nil)
		mustTell(t, d.Rename(name, "other"), nil)
		mustTell(t, d.Rename("other", name), nil)
		mustBe(t, d, name+" x; 1 3")
	}
	for _, name := range wrongNames {
		d := diskOf(10, "a x")
		mustNotChange(t, d, api.ErrName, func() error { return d.Append(name, "x") })
		mustNotChange(t, d, api.ErrName, func() error { return d.Append(name, "") })
		mustNotChange(t, d, api.ErrName, func() error { return d.Rename("a", name) })
		mustNotChange(t, d, api.ErrName, func() error { return d.Rename(name, "b") })
		mustNotChange(t, d, api.ErrName, func() error { return d.Rename(name, name) })
		mustNotChange(t, d, api.ErrName, func() error { return d.Remove(name) })
		if s, err := d.Read(name); s != "" || err != api.ErrName {
			t.Errorf("%q: %q, %v", name, s, err)
		}
	}
}

func TestP160NamesOfEachByte(t *testing.T) {
	const good = "abcdefghijklmnopqrstuvwxyz0123456789"
	for b := range 256 {
		one := string([]byte{byte(b)})
		for _, name := range []string{one, "a" + one, one + "a", "12345" + one + "789012", "abcdefghijk" + one} {
			var want error
			if !strings.Contains(good, one) {
				want = api.ErrName
			}
			d := diskOf(10, "x1 x")
			mustTell(t, d.Append(name, "y"), want)
			mustTell(t, d.Rename("x1", name), want)
		}
	}
}

func TestP160Steps(t *testing.T) {
	d := diskOf(20)
	for _, c := range []struct {
		call func() error
		want int
	}{
		{func() error { return d.Append("a", "x") }, 1},
		{func() error { return d.Append("a", "\x00\xff\n") }, 4},
		{func() error { return d.Append("b", "\u00e9\u20ac") }, 9}, // bytes, not runes
		{func() error { return d.Append("b", "") }, 9},
		{func() error { return d.Rename("a", "c") }, 10},
		{func() error { return d.Rename("c", "c") }, 11},
		{func() error { return d.Rename("c", "b") }, 12},
		{func() error { return d.Remove("b") }, 13},
		{func() error { return d.Append("a", strings.Repeat("x", 20)) }, 33},
		{func() error { return d.Remove("a") }, 34}, // however many bytes it has
		{func() error { d.Mend(); return nil }, 34},
		{func() error { return d.Cut(3) }, 34},
		{func() error { d.Copy(); return nil }, 34},
	} {
		mustTell(t, c.call(), nil)
		if d.Steps() != c.want {
			t.Errorf("%d steps, not %d", d.Steps(), c.want)
		}
	}
}

func TestP160StepsNotDone(t *testing.T) {
	d := diskOf(5, "a xy")
	for _, call := range []func() error{
		func() error { return d.Append("a", "1234") },
		func() error { return d.Append("A", "1") },
		func() error { return d.Rename("b", "c") },
		func() error { return d.Rename("a", "C") },
		func() error { return d.Remove("b") },
		func() error { return d.Cut(-1) },
	} {
		if err := call(); err == nil || d.Steps() != 2 {
			t.Error(err, d.Steps())
		}
	}
}

func TestP160Cut(t *testing.T) {
	for n, want := range []string{
		"a xy, b z; 3 3", "a xyp, b z; 4 4", "a xypq, b z; 5 5", "b z, c xypq; 5 6", "c xypq; 4 7", "c xypq, d r; 5 8",
	} {
		d := diskOf(20, "a xy", "b z")
		mustTell(t, d.Cut(n), nil)
		d.Append("a", "pq")
		d.Rename("a", "c")
		d.Remove("b")
		d.Append("d", "r")
		if n == 0 {
			mustTell(t, d.Append("a", "p"), api.ErrNone)
		}
		mustBe(t, d, want)
	}
}

// TestP160AllBehind: once a step is not done, none is, of whatever kind, until Mend.
func TestP160AllBehind(t *testing.T) {
	for n := range 4 {
		d := diskOf(20, "a xy", "b z")
		mustTell(t, d.Cut(n), nil)
		mustTell(t, d.Append("c", "1234"), api.ErrNone)
		for range 3 {
			mustNotChange(t, d, api.ErrNone, func() error { return d.Append("a", "p") })
			mustNotChange(t, d, api.ErrNone, func() error { return d.Append("new", "p") })
			mustNotChange(t, d, api.ErrNone, func() error { return d.Rename("a", "b") })
			mustNotChange(t, d, api.ErrNone, func() error { return d.Rename("a", "a") })
			mustNotChange(t, d, api.ErrNone, func() error { return d.Remove("b") })
		}
		d.Mend()
		mustTell(t, d.Append("a", strings.Repeat("p", 10)), nil)
		mustTell(t, d.Rename("a", "b"), nil)
		mustTell(t, d.Remove("b"), nil)
		if d.Steps() != 3+n+12 {
			t.Error(n, d.Steps())
		}
	}
}

// TestP160JustEnough: the last step that there is power for is told without an error.
func TestP160JustEnough(t *testing.T) {
	d := diskOf(20, "a xy")
	mustTell(t, d.Cut(5), nil)
	mustTell(t, d.Append("a", "pqr"), nil)
	mustTell(t, d.Rename("a", "b"), nil)
	mustTell(t, d.Remove("b"), nil)
	mustTell(t, d.Append("c", ""), nil)
	mustNotChange(t, d, api.ErrNone, func() error { return d.Append("c", "x") })
}

// TestP160StepsThatAreNone need no power, and take none.
func TestP160StepsThatAreNone(t *testing.T) {
	d := diskOf(5, "a xy")
	mustTell(t, d.Cut(1), nil)
	mustNotChange(t, d, nil, func() error { return d.Append("a", "") })
	mustNotChange(t, d, api.ErrSpace, func() error { return d.Append("a", "1234") })
	mustNotChange(t, d, api.ErrName, func() error { return d.Append("", "1") })
	mustNotChange(t, d, api.ErrName, func() error { return d.Rename("b", "c") })
	mustNotChange(t, d, api.ErrName, func() error { return d.Remove("b") })
	mustTell(t, d.Append("b", "1"), nil)
	mustNotChange(t, d, api.ErrNone, func() error { return d.Append("b", "1") })
}

func TestP160CutAgain(t *testing.T) {
	d := diskOf(20, "a x")
	mustTell(t, d.Cut(1), nil)
	mustTell(t, d.Cut(3), nil) // 3 from here on, whatever was left
	mustTell(t, d.Append("a", "123"), nil)
	mustTell(t, d.Append("a", "4"), api.ErrNone)
	mustTell(t, d.Cut(2), nil) // also where none was left
	mustTell(t, d.Append("a", "567"), api.ErrNone)
	mustTell(t, d.Cut(9), nil)
	mustTell(t, d.Cut(0), nil)
	mustTell(t, d.Append("a", "7"), api.ErrNone)
	d.Mend()
	mustTell(t, d.Cut(math.MaxInt), nil)
	mustTell(t, d.Append("a", "789"), nil)
	mustBe(t, d, "a x12356789; 9 9")
}

func TestP160CutBelowNone(t *testing.T) {
	for _, n := range []int{-1, -2, math.MinInt} {
		d := diskOf(20, "a x")
		mustTell(t, d.Cut(n), api.ErrBound)
		mustTell(t, d.Append("a", "yz"), nil) // there is power as there was
		mustTell(t, d.Cut(2), nil)
		mustTell(t, d.Cut(n), api.ErrBound)
		mustTell(t, d.Append("a", "123"), api.ErrNone)
		mustTell(t, d.Cut(n), api.ErrBound)
		mustTell(t, d.Append("a", "3"), api.ErrNone)
		mustBe(t, d, "a xyz12; 5 5")
	}
}

func TestP160Mend(t *testing.T) {
	d := diskOf(50)
	d.Mend() // nothing to mend
	mustTell(t, d.Append("a", "12"), nil)
	mustTell(t, d.Cut(1), nil)
	d.Mend() // ahead of the end
	mustTell(t, d.Append("a", strings.Repeat("3", 20)), nil)
	mustTell(t, d.Cut(0), nil)
	mustTell(t, d.Append("a", "4"), api.ErrNone)
	d.Mend()
	d.Mend()
	mustTell(t, d.Append("a", strings.Repeat("5", 20)), nil)
	mustBe(t, d, "a 12"+strings.Repeat("3", 20)+strings.Repeat("5", 20)+"; 42 42")
}

func TestP162Read(t *testing.T) {
	d := diskOf(600, "a x", "b yz")
	whole := ""
	for b := range 256 {
		whole += string([]byte{byte(b)})
	}
	mustTell(t, d.Append("c", whole), nil)
	for name, want := range map[string]string{"a": "x", "b": "yz", "c": whole} {
		for range 2 {
			if s, err := d.Read(name); s != want || err != nil {
				t.Errorf("%q, %v, not %q", s, err, want)
			}
		}
	}
	for _, name := range []string{"d", "ab", "aa", "a0", "aaaaaaaaaaaa"} {
		if s, err := d.Read(name); s != "" || err != api.ErrName {
			t.Errorf("%q, %v", s, err)
		}
	}
}

func TestP162Names(t *testing.T) {
	d := diskOf(100)
	if l := d.Names(); len(l) > 0 {
		t.Error(l)
	}
	want := []string{"0", "00", "10", "9", "a", "a0", "a1", "aa", "ab", "b", "z", "z9", "zz", "zzzzzzzzzzzz"}
	for _, i := range []int{3, 13, 0, 7, 10, 5, 2, 1, 12, 4, 6, 8, 9, 11} {
		mustTell(t, d.Append(want[i], "x"), nil)
	}
	for range 20 {
		if l := d.Names(); !slices.Equal(l, want) {
			t.Fatal(l)
		}
	}
	mustTell(t, d.Rename("a0", "a9"), nil)
	mustTell(t, d.Remove("9"), nil)
	if l := d.Names(); strings.Join(l, " ") != "0 00 10 a a1 a9 aa ab b z z9 zz zzzzzzzzzzzz" {
		t.Error(l)
	}
	if l := fullOf(40).Names(); len(l) != api.MaxFiles || !slices.IsSorted(l) || l[2] != "f10" {
		t.Error(l)
	}
}

func TestP162Used(t *testing.T) {
	d := diskOf(20)
	for i, c := range []struct {
		call func() error
		want int
	}{
		{func() error { return d.Append("a", "12345") }, 5},
		{func() error { return d.Append("b", "123") }, 8},
		{func() error { return d.Append("a", "6") }, 9},
		{func() error { return d.Rename("a", "c") }, 9},
		{func() error { return d.Rename("c", "c") }, 9},
		{func() error { return d.Rename("b", "c") }, 3},
		{func() error { return d.Append("b", "1234") }, 7},
		{func() error { return d.Remove("c") }, 4},
		{func() error { return d.Remove("b") }, 0},
	} {
		if err := c.call(); err != nil || d.Used() != c.want {
			t.Error(i, err, d.Used(), c.want)
		}
	}
}

// TestP162NoPower: what only asks needs none.
func TestP162NoPower(t *testing.T) {
	d := diskOf(20, "a xy", "b z")
	mustTell(t, d.Cut(0), nil)
	mustTell(t, d.Remove("a"), api.ErrNone)
	mustBe(t, d, "a xy, b z; 3 3")
	mustBe(t, d.Copy(), "a xy, b z; 3 3")
	if _, err := d.Read("c"); err != api.ErrName {
		t.Error(err)
	}
}

func TestP162Copy(t *testing.T) {
	d := diskOf(10, "a xy", "b z")
	c := d.Copy()
	mustBe(t, c, "a xy, b z; 3 3")
	mustTell(t, c.Append("a", "12345678"), api.ErrSpace) // the same quota
	mustTell(t, c.Append("a", "1234567"), nil)
	mustTell(t, c.Rename("a", "e"), nil)
	mustBe(t, d, "a xy, b z; 3 3")
	mustTell(t, d.Append("a", "pq"), nil)
	mustTell(t, d.Append("d", "r"), nil)
	mustTell(t, d.Remove("b"), nil)
	mustBe(t, d, "a xypq, d r; 5 7")
	mustBe(t, c, "b z, e xy1234567; 10 11")
}

// TestP162CopyOfAnEmptyDisk can be written to.
func TestP162CopyOfAnEmptyDisk(t *testing.T) {
	d := diskOf(3)
	c := d.Copy()
	mustTell(t, c.Append("a", "xyz"), nil)
	mustTell(t, d.Append("b", "12"), nil)
	mustBe(t, c, "a xyz; 3 3")
	mustBe(t, d, "b 12; 2 2")
}

// TestP162CopyOfTheEnd: bytes that go behind the same text do not meet.
func TestP162CopyOfTheEnd(t *testing.T) {
	for many := range 70 {
		d := diskOf(200)
		for range many {
			mustTell(t, d.Append("a", "."), nil)
		}
		c := d.Copy()
		mustTell(t, d.Append("a", "1"), nil)
		mustTell(t, c.Append("a", "2"), nil)
		e := c.Copy()
		mustTell(t, c.Append("a", "3"), nil)
		mustTell(t, e.Append("a", "4"), nil)
		dots := strings.Repeat(".", many)
		if s := must(d.Read("a")) + must(c.Read("a")) + must(e.Read("a")); s != dots+"1"+dots+"23"+dots+"24" {
			t.Error(many, s)
		}
	}
}

func TestP162CopyOfPower(t *testing.T) {
	d := diskOf(50, "a x")
	mustTell(t, d.Cut(3), nil)
	mustTell(t, d.Append("a", "y"), nil)
	c := d.Copy()
	mustTell(t, d.Append("a", "12"), nil)
	mustTell(t, d.Append("a", "3"), api.ErrNone)
	mustTell(t, c.Append("a", "pqr"), api.ErrNone) // two steps are left to it, whatever d does
	mustBe(t, c, "a xypq; 4 4")
	e := c.Copy()
	mustTell(t, e.Append("a", "s"), api.ErrNone) // no power, as c has none
	c.Mend()
	mustTell(t, c.Append("a", "s"), nil)
	mustTell(t, e.Append("a", "s"), api.ErrNone)
	mustTell(t, d.Append("a", "s"), api.ErrNone)
	f := c.Copy()
	mustTell(t, c.Cut(0), nil)
	mustTell(t, f.Append("a", "t"), nil)
	mustBe(t, d, "a xy12; 4 4")
	mustBe(t, c, "a xypqs; 5 5")
	mustBe(t, e, "a xypq; 4 4")
	mustBe(t, f, "a xypqst; 6 6")
}

func TestP4AnswersAreNew(t *testing.T) {
	d := diskOf(20, "a x", "b y")
	l := d.Names()
	l[0] = "c"
	_ = append(l[:1], "d")
	mustBe(t, d, "a x, b y; 2 2")
	m, n := d.Names(), d.Names()
	m[1] = "e"
	if strings.Join(n, " ") != "a b" {
		t.Error(n)
	}
}

// TestP4HandedOver: a text that is handed over, as a piece of a longer one, stays as it was.
func TestP4HandedOver(t *testing.T) {
	whole := strings.Repeat("0123456789", 10)
	d := diskOf(300)
	for i := range 10 {
		mustTell(t, d.Append("a", whole[i*10:i*10+5]), nil)
		mustTell(t, d.Append("b", whole[i*10+5:i*10+10]), nil)
	}
	mustTell(t, d.Rename("a", "b"), nil)
	mustTell(t, d.Append("b", "xyz"), nil)
	if whole != strings.Repeat("0123456789", 10) || must(d.Read("b")) != strings.Repeat("01234", 10)+"xyz" {
		t.Error(whole, told(d))
	}
}
