package scan_test

import (
	"fmt"
	"math/rand"
	"slices"
	"strings"
	"testing"

	"shredcol/api"
	"shredcol/enc"
	"shredcol/file"
	"shredcol/scan"
	"shredcol/schema"
)

func TestP150ByTheRule(t *testing.T) {
	r := rand.New(rand.NewSource(150))
	some := 0
	for range 2000 {
		c := anyTrial(r)
		want := c.answer()
		if l, err := scan.Naive(c.s, c.ask); told(l) != told(want) || err != nil {
			t.Fatalf("%v: %s, %v, not %s", c, told(l), err, told(want))
		}
		if len(want) > 0 && len(want) < len(c.l) {
			some++
		}
	}
	if some < 250 {
		t.Error(some)
	}
}

func TestP152ByTheRule(t *testing.T) {
	r := rand.New(rand.NewSource(152))
	for range 1000 {
		c := anyTrial(r)
		if n, err := scan.Count(c.s, c.ask); n != len(c.answer()) || err != nil {
			t.Fatalf("%v: %d, %v, not %d", c, n, err, len(c.answer()))
		}
		values := map[int][]api.Value{}
		for _, d := range c.l {
			valuesIn(c.from, d, values)
		}
		for _, leaf := range must(schema.Leaves(c.from)) {
			v, has, err := scan.Least(c.s, leaf.ID)
			w, too, bad := scan.Most(c.s, leaf.ID)
			l := values[leaf.ID]
			if has != (len(l) > 0) || has != too || err != nil || bad != nil {
				t.Fatalf("%v, %d: %v, %v, %v, %v", c, leaf.ID, has, too, err, bad)
			}
			if !has {
				mustNotTell(t, c.s, leaf.ID, nil)
				continue
			}
			outside := func(x api.Value) bool { return enc.Less(x, v) || enc.Less(w, x) }
			if !slices.Contains(l, v) || !slices.Contains(l, w) || slices.ContainsFunc(l, outside) {
				t.Fatalf("%v, %d: %v, %v", c, leaf.ID, v, w)
			}
		}
	}
}

func TestP153ScanIsNaive(t *testing.T) {
	r := rand.New(rand.NewSource(153))
	for range 2000 {
		c := anyTrial(r)
		want, err := scan.Naive(c.s, c.ask)
		if err != nil {
			t.Fatal(c, err)
		}
		if l, _, err := scan.Scan(c.s, c.ask); told(l) != told(want) || err != nil {
			t.Fatalf("%v: %s, %v, not %s", c, told(l), err, told(want))
		}
	}
}

// TestP153LongWhere: the first terms of a chain stand in very many others.
func TestP153LongWhere(t *testing.T) {
	s := small()
	for _, many := range []int{38, 39, 40, 41, 42, 100, 700} {
		for where, want := range map[string]string{
			"#1 = 3" + strings.Repeat(" & #6 > 9", many):     `{g:[x0000000000000000,x3ff0000000000000]}`,
			`#4 = "y"` + strings.Repeat(" & #1 > 0", many):   `{g:[]}`,
			"#5 = false" + strings.Repeat(" | #1 = 9", many): `{g:[x0000000000000000]} {g:[]}`,
			"#1 = 9" + strings.Repeat(" | #1 = 3", many):     `{g:[x0000000000000000,x3ff0000000000000]}`,
		} {
			mustAnswer(t, s, scan.Ask{To: now(), IDs: []int{7}, Where: where}, want)
		}
	}
}

// TestP153Turned: whatever bits of a file are turned, with its sums or without.
func TestP153Turned(t *testing.T) {
	r := rand.New(rand.NewSource(1530))
	right, wrong, unlike := 0, 0, 0
	for range 3000 {
		c := anyTrial(r)
		s := turned(r, c.s)
		want, err := scan.Naive(s, c.ask)
		l, cost, bad := scan.Scan(s, c.ask)
		n, worse := scan.Count(s, c.ask)
		if n != len(l) || !same(bad, worse) || bad != nil && (len(l) > 0 || cost != scan.Cost{}) {
			t.Fatalf("%v: %d, %v, %s, %v, %v", c, n, worse, told(l), cost, bad)
		}
		switch {
		case err == nil:
			right++
			if told(l) != told(want) || bad != nil {
				t.Fatalf("%v: %s, %v, not %s", c, told(l), bad, told(want))
			}
		case bad == nil:
			unlike++
		default:
			wrong++
		}
		for _, leaf := range must(schema.Leaves(c.from)) {
			scan.Least(s, leaf.ID)
			scan.Most(s, leaf.ID)
		}
	}
	if right < 20 || wrong < 1000 || unlike < 200 {
		t.Error(right, wrong, unlike)
	}
}

// turned in one bit of a page, mostly with its right sum; or of the footer, or of any byte.
func turned(r *rand.Rand, s string) string {
	f := must(file.Open(s))
	from, end := 0, len(s) // the body that is summed
	switch way := r.Intn(6); {
	case way > 1 && len(f.Groups) > 0:
		spots := f.Groups[r.Intn(len(f.Groups))].Chunks
		leaves := must(schema.Leaves(f.Root))
		place := r.Intn(len(spots))
		marks := pagesOf(s, f, slices.IndexFunc(f.Groups, func(g file.Part) bool { return &g.Chunks[0] == &spots[0] }), leaves[place].ID)
		m := marks[r.Intn(len(marks))]
		at := spots[place].At + m.At
		from, end = at+6, at+m.Len
		if m.Len-6 > 127 {
			from++
		}
		body := withTurned(r, s[from:end])
		return s[:from-4] + sumOf(body) + body + s[end:]
	case way > 0:
		from, end = len(s)-12-f.Len, len(s)-12
		body := withTurned(r, s[from:end])
		return s[:from] + body + s[end:end+4] + sumOf(body) + s[end+8:]
	}
	return withTurned(r, s)
}

func withTurned(r *rand.Rand, s string) string {
	b := []byte(s)
	b[r.Intn(len(b))] ^= 1 << r.Intn(8)
	return string(b)
}

// TestP4Scan: what is handed over is not changed, nor seen in an answer.
func TestP4Scan(t *testing.T) {
	s := small()
	ids := []int{0, 77, 78}
	a := scan.Ask{To: now(), IDs: ids[:1], Where: "#1 > 0"}
	before := fmt.Sprint(a)
	l, _, err := scan.Scan(s, a)
	want := told(l)
	if err != nil || len(l) != 4 {
		t.Fatal(want, err)
	}
	for range 2 {
		m := must(scan.Naive(s, a))
		n, _, err := scan.Scan(s, a)
		if told(m) != want || told(n) != want || err != nil {
			t.Error(told(m), told(n), err)
		}
		scribble(m)
		scribble(n)
	}
	if told(l) != want || fmt.Sprint(a) != before || !slices.Equal(ids, []int{0, 77, 78}) {
		t.Error(told(l), a, ids)
	}
}

func scribble(l []api.Datum) {
	for i := range l {
		scribble(l[i].L)
		scribble(l[i].F)
		l[i].V = api.Value{Kind: 9, N: 9, S: "9"}
	}
}

// TestP1Scan: whatever is handed in there is no panic.
func TestP1Scan(t *testing.T) {
	r := rand.New(rand.NewSource(1))
	for range 1000 {
		c := anyTrial(r)
		a := c.ask
		switch r.Intn(4) {
		case 0:
			a.To = api.Node{}
		case 1:
			a.IDs = []int{r.Int() - r.Int(), r.Intn(9)}
		case 2:
			a.Where = withTurned(r, a.Where+"x")
		}
		s := c.s[:r.Intn(len(c.s)+1)]
		if r.Intn(2) == 0 {
			s = c.s
		}
		_, err := scan.Naive(s, a)
		_, _, bad := scan.Scan(s, a)
		if !same(err, bad) {
			t.Fatalf("%v: %v, %v", a, err, bad)
		}
		scan.Least(s, r.Int())
		scan.Most(s, -r.Int())
	}
}
