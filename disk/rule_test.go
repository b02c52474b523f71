package disk_test

import (
	"fmt"
	"math"
	"math/rand"
	"slices"
	"strings"
	"testing"

	"shredcol/api"
	"shredcol/disk"
)

// call of a disk: of one of the kinds; a number, names and a text, as far as its kind has them.
type call struct {
	kind    byte // a append, r rename, d remove, c cut, m mend
	n       int
	one, to string // of an append: to is the text
}

func (c call) of(d *disk.Disk) error {
	switch c.kind {
	case 'a':
		return d.Append(c.one, c.to)
	case 'r':
		return d.Rename(c.one, c.to)
	case 'd':
		return d.Remove(c.one)
	case 'c':
		return d.Cut(c.n)
	}
	d.Mend()
	return nil
}

// step: a byte behind a file (the name ends at the blank), a renaming `from>to`, or a removal `-name`.
type step string

// ledger: a disk told another way: by all steps that were done, one behind the other; its
// files are what comes of these, from the beginning on. Left: -1 for ever.
type ledger struct {
	quota, left int
	steps       []step
}

// files: rows of a name, a blank and bytes, in the order in which they came.
func (l *ledger) files() []string {
	var rows []string
	at := func(name string) int {
		return slices.IndexFunc(rows, func(row string) bool { return strings.HasPrefix(row, name+" ") })
	}
	drop := func(name string) {
		rows = slices.DeleteFunc(rows, func(row string) bool { return strings.HasPrefix(row, name+" ") })
	}
	for _, s := range l.steps {
		text := string(s)
		if from, to, is := strings.Cut(text, ">"); is && !strings.Contains(from, " ") {
			_, bytes, _ := strings.Cut(rows[at(from)], " ")
			drop(from)
			drop(to)
			rows = append(rows, to+" "+bytes)
			continue
		}
		if text[0] == '-' {
			drop(text[1:])
			continue
		}
		name, one, _ := strings.Cut(text, " ")
		if at(name) < 0 {
			rows = append(rows, name+" ")
		}
		rows[at(name)] += one
	}
	slices.SortFunc(rows, func(a, b string) int {
		x, _, _ := strings.Cut(a, " ")
		y, _, _ := strings.Cut(b, " ")
		return strings.Compare(x, y)
	})
	return rows
}

func (l *ledger) used() int {
	n := 0
	for _, row := range l.files() {
		_, s, _ := strings.Cut(row, " ")
		n += len(s)
	}
	return n
}

func (l *ledger) told() string {
	return fmt.Sprintf("%s; %d %d", strings.Join(l.files(), ", "), l.used(), len(l.steps))
}

func (l *ledger) do(s step) error {
	if l.left == 0 {
		return api.ErrNone
	}
	l.left = max(l.left-1, -1)
	l.steps = append(l.steps, s)
	return nil
}

func right(name string) bool {
	return name != "" && len(name) <= 12 && strings.Trim(name, "abcdefghijklmnopqrstuvwxyz0123456789") == ""
}

func (l *ledger) call(c call) error {
	rows := l.files()
	there := right(c.one) && slices.ContainsFunc(rows, func(row string) bool { return strings.HasPrefix(row, c.one+" ") })
	switch c.kind {
	case 'c':
		if c.n < 0 {
			return api.ErrBound
		}
		l.left = c.n
	case 'm':
		l.left = -1
	case 'd':
		if !there {
			return api.ErrName
		}
		return l.do(step("-" + c.one))
	case 'r':
		if !right(c.to) || !there {
			return api.ErrName
		}
		return l.do(step(c.one + ">" + c.to))
	default:
		if !right(c.one) {
			return api.ErrName
		}
		if c.to != "" && !there && len(rows) >= 40 {
			return api.ErrBound
		}
		if l.used()+len(c.to) > l.quota {
			return api.ErrSpace
		}
		for i := range len(c.to) {
			if err := l.do(step(c.one + " " + c.to[i:i+1])); err != nil {
				return err
			}
		}
	}
	return nil
}

// anyName out of not too many, some of them none of a file's.
func anyName(r *rand.Rand) string {
	if r.Intn(12) == 0 {
		return wrongNames[r.Intn(len(wrongNames))]
	}
	if r.Intn(3) == 0 {
		return fmt.Sprintf("f%d", r.Intn(50))
	}
	return goodNames[r.Intn(len(goodNames))]
}

func anyText(r *rand.Rand, most int) string {
	s := make([]byte, r.Intn(most+1))
	for i := range s {
		s[i] = "ab >-,; \x00\xff"[r.Intn(10)]
	}
	return string(s)
}

// anyCall, so that the files are many or few.
func anyCall(r *rand.Rand, many bool) call {
	n := r.Intn(20)
	switch {
	case n < 2:
		return call{kind: 'c', n: []int{0, 1, 2, 3, 5, 8, 20, 1000, -1, -1000, math.MinInt, math.MaxInt}[r.Intn(12)]}
	case n < 5:
		return call{kind: 'm'}
	case n < 6 || !many && n < 8:
		return call{kind: 'd', one: anyName(r)}
	case n < 9:
		return call{kind: 'r', one: anyName(r), to: anyName(r)}
	}
	return call{kind: 'a', one: anyName(r), to: anyText(r, 6)}
}

func TestP161ByTheRule(t *testing.T) {
	r := rand.New(rand.NewSource(161))
	tells := map[error]int{}
	for range 250 {
		quota, many := []int{0, 1, 10, 40, 60, 150, 1000}[r.Intn(7)], r.Intn(2) == 0
		d, l := must(disk.New(quota)), &ledger{quota: quota, left: -1}
		if quota >= 60 && many {
			for i := range 36 {
				mustTell(t, d.Append(fmt.Sprintf("f%d", i), "x"), l.call(call{kind: 'a', one: fmt.Sprintf("f%d", i), to: "x"}))
			}
		}
		for range 100 {
			c := anyCall(r, many)
			want := l.call(c)
			if err := c.of(d); err != want {
				t.Fatalf("%+v: %v, not %v", c, err, want)
			}
			if got := told(d); got != l.told() {
				t.Fatalf("%+v: %q, not %q", c, got, l.told())
			}
			tells[want]++
			if r.Intn(20) == 0 {
				d = d.Copy()
			}
		}
	}
	for _, err := range []error{nil, api.ErrName, api.ErrBound, api.ErrSpace, api.ErrNone} {
		if tells[err] < 100 {
			t.Error(err, tells[err])
		}
	}
}

// anyChanges: calls that take steps, without cuts.
func anyChanges(r *rand.Rand, many int) []call {
	var l []call
	for len(l) < many {
		if c := anyCall(r, true); c.kind != 'c' && c.kind != 'm' {
			l = append(l, c)
		}
	}
	return l
}

// stages: what a disk is ahead of the first step of these calls, and behind each step:
// bytes are appended one by one.
func stages(t *testing.T, d *disk.Disk, calls []call) []string {
	d = d.Copy()
	l, first := []string{told(d)}, d.Steps()
	for _, c := range calls {
		parts := []call{c}
		if c.kind == 'a' && d.Copy().Append(c.one, c.to) == nil {
			parts = nil
			for i := range len(c.to) {
				parts = append(parts, call{kind: 'a', one: c.one, to: c.to[i : i+1]})
			}
		}
		for _, part := range parts {
			before := d.Steps()
			part.of(d)
			if d.Steps() > before {
				l = append(l, told(d))
			}
		}
	}
	if len(l)-1 != d.Steps()-first {
		t.Fatal(l, first)
	}
	return l
}

// TestP163UpToAStep: wherever the power is cut, the disk is as it is behind that step, and
// stays so; behind Mend it goes on.
func TestP163UpToAStep(t *testing.T) {
	r := rand.New(rand.NewSource(163))
	for range 150 {
		d := diskOf([]int{20, 40, 100}[r.Intn(3)], "a xy", "f3 z", "5m 12345")
		calls := anyChanges(r, 12)
		l := stages(t, d, calls)
		for n := range len(l) + 2 {
			cut := d.Copy()
			mustTell(t, cut.Cut(n), nil)
			off := 0
			for _, c := range calls {
				if c.of(cut) == api.ErrNone {
					off++
				}
			}
			if want := l[min(n, len(l)-1)]; told(cut) != want || (off > 0) != (n < len(l)-1) {
				t.Fatalf("%+v, %d: %q, not %q (%d)", calls, n, told(cut), want, off)
			}
			cut.Mend()
			before := cut.Steps()
			for _, name := range cut.Names() {
				mustTell(t, cut.Remove(name), nil)
				before++
			}
			mustBe(t, cut, fmt.Sprintf("; 0 %d", before))
		}
	}
}

func TestP163NeverAboveQuota(t *testing.T) {
	r := rand.New(rand.NewSource(1630))
	full := 0
	for range 300 {
		quota := r.Intn(40)
		d := must(disk.New(quota))
		for range 60 {
			c := anyCall(r, false)
			if c.kind == 'a' {
				c.to = anyText(r, quota+3)
			}
			c.of(d)
			if d.Used() > quota || d.Used() < 0 || len(d.Names()) > api.MaxFiles {
				t.Fatalf("%+v: %s, quota %d", c, told(d), quota)
			}
			if d.Used() == quota && quota > 0 {
				full++
			}
		}
	}
	if full < 500 {
		t.Error(full)
	}
}

// TestP1WhateverIsGiven: no call panics, of whatever names, texts and numbers.
func TestP1WhateverIsGiven(t *testing.T) {
	texts := append(slices.Clone(wrongNames), "", "a", strings.Repeat("x", api.MaxQuota+1))
	for _, quota := range []int{0, 3, api.MaxQuota} {
		for _, n := range []int{math.MinInt, -1, 0, 1, math.MaxInt} {
			d := diskOf(quota)
			d.Append("a", "x")
			d.Cut(n)
			for _, one := range texts {
				for _, two := range texts {
					d.Append(one, two)
					d.Rename(one, two)
				}
				d.Remove(one)
				d.Read(one)
				d.Append("a", "xy")
			}
			d.Copy().Mend()
			d.Names()
			if d.Used() > quota {
				t.Error(d.Used(), quota)
			}
		}
	}
}

// TestP2SameCalls: two disks that were called alike are alike, in whatever order a map is gone through.
func TestP2SameCalls(t *testing.T) {
	r := rand.New(rand.NewSource(2))
	for range 50 {
		d, e := diskOf(200), diskOf(200)
		for range 80 {
			c := anyCall(r, true)
			if a, b := c.of(d), c.of(e); a != b || told(d) != told(e) || !slices.Equal(d.Names(), e.Names()) {
				t.Fatalf("%+v: %v, %v, %q, %q", c, a, b, told(d), told(e))
			}
		}
	}
}
