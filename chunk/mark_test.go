package chunk_test

import (
	"fmt"
	"math"
	"math/rand"
	"slices"
	"strings"
	"testing"

	"shredcol/api"
	"shredcol/chunk"
	"shredcol/page"
	"shredcol/schema"
	"shredcol/shred"
	"shredcol/stats"
)

func mustMark(t *testing.T, leaf schema.Leaf, s string) []chunk.Mark {
	t.Helper()
	l, err := chunk.Marks(leaf, s)
	if err != nil {
		t.Fatalf("%s: %v", brief(s), err)
	}
	return l
}

func mustPick(t *testing.T, leaf schema.Leaf, s string, marks []chunk.Mark, keep []bool, want api.Column) {
	t.Helper()
	if got, err := chunk.Pick(leaf, s, marks, keep); told(got) != told(want) || err != nil {
		t.Fatalf("%s, %s, %s: %s, %v, not %s", brief(s), brief(marks), brief(keep), brief(got), err, brief(want))
	}
}

// mustNotPick: Pick tells this error, and nothing else.
func mustNotPick(t *testing.T, leaf schema.Leaf, s string, marks []chunk.Mark, keep []bool, want error) {
	t.Helper()
	if got, err := chunk.Pick(leaf, s, marks, keep); told(got) != nothing || err != want {
		t.Errorf("%s, %s, %s: %s, %v, not %v", brief(s), brief(marks), brief(keep), brief(got), err, want)
	}
}

func allKept(marks []chunk.Mark) []bool { return slices.Repeat([]bool{true}, len(marks)) }

func TestP112MarksKnown(t *testing.T) {
	leaf, c := someLeaf(), someColumn()
	s := mustWrite(t, leaf, c, 3)
	sizes := []int{len(pagesOf(t, leaf, cut(leaf, c, 0, 3))), len(pagesOf(t, leaf, cut(leaf, c, 3, 6))), len(pagesOf(t, leaf, cut(leaf, c, 6, 8)))}
	want := []chunk.Mark{
		{At: 0, Len: sizes[0], First: 0, Records: 1, Stats: stats.Stats{Entries: 3, Nulls: 1, Has: true, Min: whole(-6), Max: whole(5)}},
		{At: sizes[0], Len: sizes[1], First: 1, Records: 2, Stats: stats.Stats{Entries: 3, Nulls: 1, Has: true, Min: whole(7), Max: whole(8)}},
		{At: sizes[0] + sizes[1], Len: sizes[2], First: 3, Records: 2, Stats: stats.Stats{Entries: 2, Nulls: 1, Has: true, Min: whole(9), Max: whole(9)}},
	}
	if got := mustMark(t, leaf, s); !slices.Equal(got, want) {
		t.Errorf("%+v, not %+v", got, want)
	}
	// Of a literal chunk of two pages of 21 bytes, without levels.
	one := "P\x0f\x12\x12\x13\x42\x02\x00\x01\x01\x01\x00\x01\x01\x01\x03\x01\x03\x00\x01\x01"
	known := stats.Stats{Entries: 2, Has: true, Min: number(api.Bool, 0), Max: number(api.Bool, 1)}
	want = []chunk.Mark{{At: 0, Len: 21, First: 0, Records: 2, Stats: known}, {At: 21, Len: 21, First: 2, Records: 2, Stats: known}}
	if got := mustMark(t, schema.Leaf{ID: 1, Kind: api.Bool}, one+one); !slices.Equal(got, want) {
		t.Errorf("%+v, not %+v", got, want)
	}
	// Without a value.
	leaf, c = longColumn(api.MaxEntries, 2)
	s = mustWrite(t, leaf, c, api.MaxEntries)
	want = []chunk.Mark{{At: 0, Len: len(s), First: 0, Records: 10000, Stats: stats.Stats{Entries: 20000, Nulls: 20000}}}
	if got := mustMark(t, leaf, s); !slices.Equal(got, want) {
		t.Errorf("%+v, not %+v", got, want)
	}
}

func TestP112MarksByTheRule(t *testing.T) {
	r := rand.New(rand.NewSource(112))
	for range 3000 {
		leaf, c := anyColumn(r)
		s := mustWrite(t, leaf, c, 1+r.Intn(len(c.Rep)+2))
		at, first := 0, 0
		for i, m := range mustMark(t, leaf, s) {
			part, used, err := page.Read(leaf, s[at:])
			if err != nil {
				t.Fatal(err)
			}
			known, _, err := page.Peek(leaf, s[at:])
			if err != nil {
				t.Fatal(err)
			}
			if want := (chunk.Mark{At: at, Len: used, First: first, Records: shred.Count(part), Stats: known}); m != want {
				t.Fatalf("%q, %d: %+v, not %+v", s, i, m, want)
			}
			at += used
			first += shred.Count(part)
		}
		if at != len(s) || first != shred.Count(c) {
			t.Fatalf("%q: %d bytes, %d records", s, at, first)
		}
	}
}

func TestP112PickKnown(t *testing.T) {
	leaf, c := someLeaf(), someColumn()
	s := mustWrite(t, leaf, c, 3)
	marks := mustMark(t, leaf, s)
	for _, k := range []struct {
		keep []bool
		want string
	}{
		{[]bool{false, false, false}, "{4 [] [] []}"},
		{[]bool{true, false, false}, "{4 [0 2 1] [2 2 1] [{2 5 } {2 -6 }]}"},
		{[]bool{false, true, false}, "{4 [0 0 1] [0 2 2] [{2 7 } {2 8 }]}"},
		{[]bool{false, false, true}, "{4 [0 0] [2 1] [{2 9 }]}"},
		{[]bool{true, false, true}, "{4 [0 2 1 0 0] [2 2 1 2 1] [{2 5 } {2 -6 } {2 9 }]}"},
		{[]bool{true, true, true}, "{4 [0 2 1 0 0 1 0 0] [2 2 1 0 2 2 2 1] [{2 5 } {2 -6 } {2 7 } {2 8 } {2 9 }]}"},
	} {
		if got, err := chunk.Pick(leaf, s, marks, k.keep); fmt.Sprint(got) != k.want || err != nil {
			t.Errorf("%v: %v, %v, not %s", k.keep, got, err, k.want)
		}
	}
	// No pages at all: no entries, and no page that could have an error.
	for _, s := range []string{"", "x", s} {
		mustPick(t, leaf, s, nil, nil, api.Column{ID: 4})
		mustPick(t, leaf, s, []chunk.Mark{}, []bool{}, api.Column{ID: 4})
	}
}

// TestP112PickByPlaceAlone: what else a mark tells is not asked, and marks may be in
// whatever order, come again, or be some of them.
func TestP112PickByPlaceAlone(t *testing.T) {
	leaf, c := someLeaf(), someColumn()
	s := mustWrite(t, leaf, c, 3)
	marks := mustMark(t, leaf, s)
	for i := range marks {
		marks[i] = chunk.Mark{At: marks[i].At, Len: marks[i].Len, First: -i, Records: math.MaxInt}
	}
	mustPick(t, leaf, s, marks, allKept(marks), c)
	mustPick(t, leaf, "junk"+s, []chunk.Mark{{At: 4 + marks[1].At, Len: marks[1].Len}}, []bool{true}, cut(leaf, c, 3, 6))
	got, err := chunk.Pick(leaf, s, []chunk.Mark{marks[2], marks[0], marks[2]}, allKept(marks))
	if fmt.Sprint(got) != "{4 [0 0 0 2 1 0 0] [2 1 2 2 1 2 1] [{2 9 } {2 5 } {2 -6 } {2 9 }]}" || err != nil {
		t.Error(got, err)
	}
	// Pages that are not kept are not looked at.
	b := []byte(s)
	for i := range marks[1].Len {
		b[marks[1].At+i] ^= 0x55
	}
	got, err = chunk.Pick(leaf, string(b), marks, []bool{true, false, true})
	if fmt.Sprint(got) != "{4 [0 2 1 0 0] [2 2 1 2 1] [{2 5 } {2 -6 } {2 9 }]}" || err != nil {
		t.Error(got, err)
	}
	mustNotPick(t, leaf, string(b), marks, allKept(marks), api.ErrText)
	// Nor how many entries there are: no error of the chapter is so.
	long, most := longColumn(api.MaxEntries, 1)
	s = mustWrite(t, long, most, api.MaxEntries)
	twice := slices.Repeat(mustMark(t, long, s), 2)
	if got, err := chunk.Pick(long, s, twice, allKept(twice)); len(got.Rep) != 40000 || len(got.Def) != 40000 || err != nil {
		t.Error(len(got.Rep), err)
	}
}

// TestP112NotAsMany is told ahead of all else.
func TestP112NotAsMany(t *testing.T) {
	leaf := someLeaf()
	s := mustWrite(t, leaf, someColumn(), 3)
	marks := mustMark(t, leaf, s)
	out := []chunk.Mark{{At: -1, Len: 1}}
	for many := range 6 {
		for _, kept := range []bool{true, false} {
			keep := slices.Repeat([]bool{kept}, many)
			if many != 3 {
				mustNotPick(t, leaf, s, marks, keep, api.ErrShape)
				mustNotPick(t, leaf, "x", marks, keep, api.ErrShape)
			}
			if many != 1 {
				mustNotPick(t, leaf, s, out, keep, api.ErrShape)
			}
		}
	}
	mustNotPick(t, leaf, s, nil, []bool{false}, api.ErrShape)
	mustNotPick(t, leaf, s, marks, nil, api.ErrShape)
	// What lies behind a list's length is not its own.
	mustNotPick(t, leaf, s, marks, make([]bool, 3)[:2], api.ErrShape)
}

// TestP112LeadsOut: of marks that are kept and of those that are not, ahead of what is
// wrong with the pages.
func TestP112LeadsOut(t *testing.T) {
	leaf := someLeaf()
	right := mustWrite(t, leaf, someColumn(), 3)
	marks := mustMark(t, leaf, right)
	size := len(right)
	for _, bad := range []chunk.Mark{
		{At: -1, Len: 1}, {At: -1, Len: 2}, {At: -1, Len: size}, {At: 0, Len: 0}, {At: 0, Len: -1}, {At: 5, Len: 0}, {At: 5, Len: -5}, {At: size, Len: 0}, {At: size, Len: 1},
		{At: 0, Len: size + 1}, {At: 1, Len: size}, {At: size - 1, Len: 2}, {At: size + 1, Len: -1}, {At: size + 1, Len: 1}, {},
		{At: math.MaxInt, Len: 1}, {At: math.MaxInt, Len: math.MaxInt}, {At: 1, Len: math.MaxInt}, {At: math.MinInt, Len: 1}, {At: math.MinInt, Len: math.MinInt},
		{At: math.MinInt, Len: math.MaxInt}, {At: math.MaxInt, Len: math.MinInt}, {At: 0, Len: math.MinInt}, {At: size, Len: math.MinInt}, {At: -2, Len: math.MaxInt},
	} {
		for at := range 4 {
			l := slices.Insert(slices.Clone(marks), at, bad)
			for _, kept := range []bool{true, false} {
				keep := slices.Repeat([]bool{kept}, 4)
				mustNotPick(t, leaf, right, l, keep, api.ErrBound)
				mustNotPick(t, leaf, strings.Repeat("x", size), l, keep, api.ErrBound)
				mustNotPick(t, schema.Leaf{}, right, l, keep, api.ErrBound)
				keep[at] = !kept
				mustNotPick(t, leaf, right, l, keep, api.ErrBound)
			}
		}
	}
	// Up to the end a mark leads nowhere out; what is no page there is not kept.
	for _, m := range []chunk.Mark{{At: 0, Len: 1}, {At: size - 1, Len: 1}, {At: 0, Len: size}, {At: 1, Len: size - 1}} {
		mustPick(t, leaf, right, []chunk.Mark{m}, []bool{false}, api.Column{ID: 4})
		mustNotPick(t, leaf, right, []chunk.Mark{m}, []bool{true}, api.ErrText)
	}
	mustNotPick(t, leaf, "", []chunk.Mark{{At: 0, Len: 1}}, []bool{false}, api.ErrBound)
	mustNotPick(t, leaf, "", []chunk.Mark{{}}, []bool{true}, api.ErrBound)
}

func TestP112PickWrongPages(t *testing.T) {
	leaf, c := someLeaf(), someColumn()
	right := mustWritePage(t, leaf, c)
	carried := anyPage(t, leaf, cut(leaf, c, 1, 3))
	for wrong, want := range wrongPages(t) {
		s := right + carried + wrong
		marks := []chunk.Mark{{At: 0, Len: len(right)}, {At: len(right), Len: len(carried)}, {At: len(right) + len(carried), Len: len(wrong)}}
		mustPick(t, leaf, s, marks, []bool{true, false, false}, c)
		for _, keep := range [][]bool{{false, false, true}, {true, false, true}, {true, true, true}} {
			mustNotPick(t, leaf, s, marks, keep, want)
		}
		// A length that is not right is told behind it, of the page itself as well.
		marks[0].Len--
		marks[1].Len++
		mustNotPick(t, leaf, s, marks, []bool{true, true, true}, want)
		marks[2].Len = 1
		mustNotPick(t, leaf, s, marks, []bool{true, true, true}, want)
		mustNotPick(t, leaf, s, marks, []bool{true, true, false}, api.ErrText)
	}
	// The first of the kept pages that is none.
	turned := right[:len(right)-1] + "\x77"
	two := []chunk.Mark{{At: 0, Len: 1}, {At: 1, Len: len(turned)}}
	mustNotPick(t, leaf, "x"+turned, two, []bool{true, true}, api.ErrText)
	mustNotPick(t, leaf, "x"+turned, []chunk.Mark{two[1], two[0]}, []bool{true, true}, api.ErrSum)
	mustNotPick(t, leaf, "x"+turned, two, []bool{false, true}, api.ErrSum)
	// A leaf that is none is told of a page that is read.
	one := []chunk.Mark{{At: 0, Len: len(right)}}
	mustNotPick(t, schema.Leaf{ID: 4}, right, one, []bool{true}, api.ErrShape)
	mustPick(t, schema.Leaf{ID: 4}, right, one, []bool{false}, api.Column{ID: 4})
	one[0].Len--
	mustNotPick(t, schema.Leaf{ID: 4}, right, one, []bool{true}, api.ErrShape)
}

func TestP112NotAsLong(t *testing.T) {
	leaf, c := someLeaf(), someColumn()
	s := mustWrite(t, leaf, c, 3)
	for at := range 3 {
		for size := 1; size <= len(s); size++ {
			marks := mustMark(t, leaf, s)
			right := marks[at].Len
			marks[at].Len = size
			keep := allKept(marks)
			switch {
			case marks[at].At+size > len(s):
				mustNotPick(t, leaf, s, marks, keep, api.ErrBound)
			case size != right:
				mustNotPick(t, leaf, s, marks, keep, api.ErrText)
				keep[at] = false
				if got, err := chunk.Pick(leaf, s, marks, keep); len(got.Rep) != len(c.Rep)-marks[at].Stats.Entries || err != nil {
					t.Error(got, err)
				}
			default:
				mustPick(t, leaf, s, marks, keep, c)
			}
		}
	}
}

func TestP112PickFirstRep(t *testing.T) {
	leaf, c := someLeaf(), someColumn()
	right := mustWritePage(t, leaf, c)
	carried := anyPage(t, leaf, cut(leaf, c, 5, 6))
	marks := []chunk.Mark{{At: 0, Len: len(right)}, {At: len(right), Len: len(carried)}}
	mustPick(t, leaf, right+carried, marks, []bool{true, false}, c)
	mustNotPick(t, leaf, right+carried, marks, []bool{false, true}, api.ErrShape)
	mustNotPick(t, leaf, right+carried, marks, []bool{true, true}, api.ErrShape)
	// Behind a length that is not right, whose ever.
	for at := range 2 {
		wrong := slices.Clone(marks)
		wrong[at].Len--
		mustNotPick(t, leaf, right+carried, wrong, []bool{true, true}, api.ErrText)
		slices.Reverse(wrong)
		mustNotPick(t, leaf, right+carried, wrong, []bool{true, true}, api.ErrText)
	}
}

// pickByTheRule: the error that is told of marks and pages, by going through all of them
// once for each error in the order in which the chapter names them.
func pickByTheRule(leaf schema.Leaf, s string, marks []chunk.Mark, keep []bool) (api.Column, error) {
	if len(keep) != len(marks) {
		return api.Column{}, api.ErrShape
	}
	all := api.Column{ID: leaf.ID}
	for _, ask := range []func(m chunk.Mark, kept bool) error{
		func(m chunk.Mark, kept bool) error {
			if m.Len < 1 || m.At < 0 || m.At+m.Len > len(s) {
				return api.ErrBound
			}
			return nil
		},
		func(m chunk.Mark, kept bool) error {
			if !kept {
				return nil
			}
			_, _, err := page.Read(leaf, s[m.At:])
			return err
		},
		func(m chunk.Mark, kept bool) error {
			if _, used, _ := page.Read(leaf, s[m.At:]); kept && used != m.Len {
				return api.ErrText
			}
			return nil
		},
		func(m chunk.Mark, kept bool) error {
			if !kept {
				return nil
			}
			c, _, _ := page.Read(leaf, s[m.At:])
			if c.Rep[0] != 0 {
				return api.ErrShape
			}
			all.Rep, all.Def, all.Values = append(all.Rep, c.Rep...), append(all.Def, c.Def...), append(all.Values, c.Values...)
			return nil
		},
	} {
		for i, m := range marks {
			if err := ask(m, keep[i]); err != nil {
				return api.Column{}, err
			}
		}
	}
	return all, nil
}

func TestP112PickByTheRule(t *testing.T) {
	r := rand.New(rand.NewSource(1120))
	seen := map[error]int{}
	for range 6000 {
		leaf, c := anyColumn(r)
		s := ""
		var marks []chunk.Mark
		var keep []bool
		for range r.Intn(5) {
			from := 0
			if r.Intn(3) == 0 {
				from = r.Intn(len(c.Rep))
			}
			one, _ := spoilt(r, anyPage(t, leaf, cut(leaf, c, from, from+1+r.Intn(len(c.Rep)-from))))
			marks = append(marks, chunk.Mark{At: len(s), Len: len(one)})
			keep = append(keep, r.Intn(3) > 0)
			s += one
		}
		for range r.Intn(3) {
			if len(marks) > 0 && r.Intn(4) == 0 {
				marks[r.Intn(len(marks))].Len += r.Intn(5) - 2
			}
			if len(marks) > 0 && r.Intn(8) == 0 {
				marks[r.Intn(len(marks))].At += r.Intn(5) - 2
			}
			if r.Intn(12) == 0 {
				keep = append(keep, true)
			}
		}
		want, wantErr := pickByTheRule(leaf, s, marks, keep)
		seen[wantErr]++
		if got, err := chunk.Pick(leaf, s, marks, keep); told(got) != told(want) || err != wantErr {
			t.Fatalf("%q, %+v, %v: %+v, %v, not %+v, %v", s, marks, keep, got, err, want, wantErr)
		}
	}
	for _, err := range []error{nil, api.ErrShape, api.ErrBound, api.ErrText, api.ErrSum} {
		if seen[err] < 50 {
			t.Errorf("%v: %d times", err, seen[err])
		}
	}
}

func TestP113WhatIsWrittenIsRead(t *testing.T) {
	r := rand.New(rand.NewSource(113))
	for range 4000 {
		leaf, c := anyColumn(r)
		s := mustWrite(t, leaf, c, 1+r.Intn(len(c.Rep)+2))
		mustRead(t, leaf, s, c)
		marks := mustMark(t, leaf, s)
		mustPick(t, leaf, s, marks, allKept(marks), c)
	}
}

// TestP113KeptRecords are those that the marks tell, in the column that was written.
func TestP113KeptRecords(t *testing.T) {
	r := rand.New(rand.NewSource(1130))
	for range 4000 {
		leaf, c := anyColumn(r)
		s := mustWrite(t, leaf, c, 1+r.Intn(len(c.Rep)+2))
		marks := mustMark(t, leaf, s)
		keep := make([]bool, len(marks))
		var parts []api.Column
		known := stats.Stats{}
		for i, m := range marks {
			part, err := shred.Part(leaf, c, m.First, m.First+m.Records)
			if err != nil {
				t.Fatal(err)
			}
			if of, err := stats.Of(leaf, part); of != m.Stats || err != nil {
				t.Fatalf("%+v, not %+v, %v", m, of, err)
			}
			if known, err = stats.Merge(known, m.Stats); err != nil {
				t.Fatal(err)
			}
			if keep[i] = r.Intn(2) == 0; keep[i] {
				parts = append(parts, part)
			}
		}
		want, err := shred.Join(leaf, parts)
		if err != nil {
			t.Fatal(err)
		}
		mustPick(t, leaf, s, marks, keep, want)
		if of, err := stats.Of(leaf, c); of != known || err != nil {
			t.Fatalf("%+v, not %+v, %v", known, of, err)
		}
	}
}

// TestP113Long: as many entries as there may be, of long values, by pages of all sizes.
func TestP113Long(t *testing.T) {
	r := rand.New(rand.NewSource(1131))
	leaf := schema.Leaf{ID: 1, Kind: api.Bytes}
	c := api.Column{ID: 1, Rep: make([]int, api.MaxEntries), Def: make([]int, api.MaxEntries)}
	for range api.MaxEntries {
		b := make([]byte, api.MaxBytes)
		r.Read(b)
		c.Values = append(c.Values, api.Value{Kind: api.Bytes, S: string(b)})
	}
	for most, pages := range map[int]int{1: 20000, 7: 2858, 3333: 7, 20000: 1} {
		s := mustWrite(t, leaf, c, most)
		mustRead(t, leaf, s, c)
		marks := mustMark(t, leaf, s)
		if len(marks) != pages || len(s) < 10*api.MaxData {
			t.Errorf("by %d: %d pages, %d bytes", most, len(marks), len(s))
		}
		mustPick(t, leaf, s, marks, allKept(marks), c)
	}
}

func TestP1WhateverIsGiven(t *testing.T) {
	r := rand.New(rand.NewSource(1))
	ints := []int{0, 0, 1, 1, 2, 3, 40, 41, -1, 5, 20, 21, 42, api.MaxEntries, api.MaxEntries + 1, math.MaxInt, math.MinInt}
	some := func() int { return ints[r.Intn(len(ints))] }
	list := func() []int {
		l := make([]int, r.Intn(4))
		for i := range l {
			l[i] = some()
		}
		return l
	}
	right := mustWrite(t, someLeaf(), someColumn(), 3)
	texts := []string{"", "x", "P", right, right + right, right[:30], right + "P\x00\x00\x00\x00\x00", sealed("")}
	for range 20000 {
		leaf := schema.Leaf{ID: r.Intn(2), Kind: some(), MaxRep: some(), MaxDef: some()}
		if r.Intn(2) == 0 {
			leaf = someLeaf()
		}
		c := api.Column{ID: leaf.ID, Rep: list(), Def: list(), Values: make([]api.Value, r.Intn(3))}
		if s, err := chunk.Write(leaf, c, some()); err != nil && s != "" {
			t.Fatalf("%q, %v", s, err)
		}
		b := []byte(texts[r.Intn(len(texts))])
		for range r.Intn(3) * len(b) / 40 {
			b[r.Intn(len(b))] ^= 1 << r.Intn(8)
		}
		s := string(b)
		if got, err := chunk.Read(leaf, s); err != nil && told(got) != nothing {
			t.Fatalf("%+v, %v", got, err)
		}
		if l, err := chunk.Marks(leaf, s); err != nil && len(l) > 0 {
			t.Fatalf("%+v, %v", l, err)
		}
		marks := make([]chunk.Mark, r.Intn(3))
		for i := range marks {
			marks[i] = chunk.Mark{At: some(), Len: some(), First: some(), Records: some()}
		}
		keep := make([]bool, r.Intn(3))
		for i := range keep {
			keep[i] = r.Intn(2) == 0
		}
		if got, err := chunk.Pick(leaf, s, marks, keep); err != nil && told(got) != nothing {
			t.Fatalf("%+v, %v", got, err)
		}
	}
}

func TestP4ArgumentsAreOnlyRead(t *testing.T) {
	r := rand.New(rand.NewSource(4))
	for range 500 {
		leaf, c := anyColumn(r)
		most := 1 + r.Intn(len(c.Rep)+2)
		c.Rep = append(slices.Clone(c.Rep), 77)[:len(c.Rep)]
		c.Def = append(slices.Clone(c.Def), 77)[:len(c.Def)]
		c.Values = append(slices.Clone(c.Values), whole(77))[:len(c.Values)]
		all := func() string {
			return fmt.Sprint(leaf, c, c.Rep[:len(c.Rep)+1], c.Def[:len(c.Def)+1], c.Values[:len(c.Values)+1])
		}
		before := all()
		s, again := mustWrite(t, leaf, c, most), mustWrite(t, leaf, c, most)
		if s != again || all() != before {
			t.Fatalf("%q, %q: %s, ahead %s", s, again, all(), before)
		}
		marks := mustMark(t, leaf, s)
		keep := make([]bool, len(marks), len(marks)+1)
		for i := range keep {
			keep[i] = r.Intn(2) == 0
		}
		given := fmt.Sprint(marks, keep, keep[:len(keep)+1])
		first, err := chunk.Pick(leaf, s, marks, keep)
		if err != nil || fmt.Sprint(marks, keep, keep[:len(keep)+1]) != given {
			t.Fatalf("%v %v: %s ahead, %v", marks, keep, given, err)
		}
		mustPick(t, leaf, s, marks, keep, first)
	}
}

// TestP4AnswersAreNew: what is written into an answer shows nowhere else.
func TestP4AnswersAreNew(t *testing.T) {
	r := rand.New(rand.NewSource(40))
	for range 500 {
		leaf, c := anyColumn(r)
		s := mustWrite(t, leaf, c, 1+r.Intn(len(c.Rep)+2))
		marks := mustMark(t, leaf, s)
		keep := allKept(marks)
		read, err := chunk.Read(leaf, s)
		if err != nil {
			t.Fatal(err)
		}
		picked, err := chunk.Pick(leaf, s, marks, keep)
		if err != nil {
			t.Fatal(err)
		}
		for _, got := range []api.Column{read, picked} {
			for i := range got.Rep {
				got.Rep[i] = 77
			}
			if !slices.Equal(got.Def, c.Def) || !slices.Equal(got.Values, c.Values) {
				t.Fatalf("%+v", got)
			}
			for i := range got.Def {
				got.Def[i] = 78
			}
			clear(got.Values)
			_ = append(append(got.Rep, 1), 2)
			if slices.ContainsFunc(got.Def, func(n int) bool { return n != 78 }) {
				t.Fatalf("%+v", got)
			}
		}
		mustRead(t, leaf, s, c)
		mustPick(t, leaf, s, marks, keep, c)
		spare := mustMark(t, leaf, s)
		clear(spare)
		if !slices.Equal(mustMark(t, leaf, s), marks) {
			t.Fatal(marks)
		}
	}
}
