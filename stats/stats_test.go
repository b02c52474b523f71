package stats_test

import (
	"errors"
	"fmt"
	"math"
	"math/rand"
	"slices"
	"strings"
	"testing"

	"shredcol/api"
	"shredcol/enc"
	"shredcol/schema"
	"shredcol/shred"
	"shredcol/stats"
)

// Bare errors are held by ==, since those without a place must not be wrapped.

var kinds = []int{api.Bool, api.Int, api.Long, api.Bytes, api.Double}

func number(kind int, n int64) api.Value { return api.Value{Kind: kind, N: n} }

func whole(n int64) api.Value { return number(api.Int, n) }

func long(n int64) api.Value { return number(api.Long, n) }

func text(s string) api.Value { return api.Value{Kind: api.Bytes, S: s} }

func double(x float64) api.Value { return number(api.Double, int64(math.Float64bits(x))) }

// between: stats of values alone.
func between(least, greatest api.Value) stats.Stats {
	return stats.Stats{Entries: 2, Has: true, Min: least, Max: greatest}
}

// column of values and, behind each of them, so many entries without one.
func column(values []api.Value, nulls int) api.Column {
	c := api.Column{ID: 1, Values: values}
	for range values {
		c.Rep = append(c.Rep, make([]int, nulls+1)...)
		c.Def = append(append(c.Def, 1), make([]int, nulls)...)
	}
	return c
}

func leafOf(kind int) schema.Leaf { return schema.Leaf{ID: 1, Kind: kind, MaxDef: 1} }

// anyValue of the kind; often one of a few, so that some come again.
func anyValue(r *rand.Rand, kind int) api.Value {
	few := r.Intn(2) == 0
	switch {
	case kind == api.Bool:
		return number(kind, int64(r.Intn(2)))
	case kind == api.Bytes:
		b := make([]byte, r.Intn(4))
		for i := range b {
			b[i] = "\x00a\x7f\xff"[r.Intn(4)]
		}
		if !few {
			b = slices.Concat([]byte(strings.Repeat("x", r.Intn(api.MaxBytes-3))), b)
		}
		return text(string(b))
	case few:
		return number(kind, int64(r.Intn(7)-3))
	case kind == api.Int:
		return number(kind, int64(int32(r.Uint32())))
	}
	return number(kind, int64(r.Uint64()))
}

// anyColumn with a leaf that it is of.
func anyColumn(r *rand.Rand, kind, many int) (schema.Leaf, api.Column) {
	leaf := schema.Leaf{ID: r.Intn(9), Kind: kind, MaxRep: r.Intn(3), MaxDef: r.Intn(4)}
	c := api.Column{ID: leaf.ID}
	noValues := r.Intn(6) == 0 && leaf.MaxDef > 0
	for i := range many {
		rep, def := r.Intn(leaf.MaxRep+1), r.Intn(leaf.MaxDef+1)
		if i == 0 {
			rep = 0
		}
		if noValues {
			def = r.Intn(leaf.MaxDef)
		}
		c.Rep, c.Def = append(c.Rep, rep), append(c.Def, def)
		if def == leaf.MaxDef {
			c.Values = append(c.Values, anyValue(r, kind))
		}
	}
	return leaf, c
}

func mustOf(t *testing.T, leaf schema.Leaf, c api.Column) stats.Stats {
	t.Helper()
	s, err := stats.Of(leaf, c)
	if err != nil {
		t.Fatalf("%+v of %+v: %v", c, leaf, err)
	}
	return s
}

func TestP90OfKnown(t *testing.T) {
	nan, minusNan := number(api.Double, 0x7ff8000000000000), number(api.Double, -0x8000000000000)
	for i, c := range []struct {
		kind        int
		values      []api.Value
		least, most api.Value
	}{
		{api.Bool, []api.Value{number(api.Bool, 1)}, number(api.Bool, 1), number(api.Bool, 1)},
		{api.Bool, []api.Value{number(api.Bool, 1), number(api.Bool, 0)}, number(api.Bool, 0), number(api.Bool, 1)},
		{api.Int, []api.Value{whole(5), whole(-3), whole(4)}, whole(-3), whole(5)},
		{api.Int, []api.Value{whole(0), whole(math.MaxInt32), whole(math.MinInt32), whole(1)}, whole(math.MinInt32), whole(math.MaxInt32)},
		{api.Long, []api.Value{long(math.MaxInt64), long(math.MinInt64), long(0)}, long(math.MinInt64), long(math.MaxInt64)},
		{api.Bytes, []api.Value{text("b"), text(""), text("ab"), text("\xff")}, text(""), text("\xff")},
		{api.Bytes, []api.Value{text("ab"), text("b"), text("aab")}, text("aab"), text("b")},
		// Doubles below 0 fall by their bits; both zeros and what is no number have their places.
		{api.Double, []api.Value{double(-1), double(-2), double(1), double(2)}, double(-2), double(2)},
		{api.Double, []api.Value{double(0), double(math.Copysign(0, -1))}, double(math.Copysign(0, -1)), double(0)},
		{api.Double, []api.Value{double(math.Inf(1)), nan, double(math.Inf(-1)), minusNan}, minusNan, nan},
	} {
		for nulls := range 3 {
			got, err := stats.Of(leafOf(c.kind), column(c.values, nulls))
			many := len(c.values)
			want := stats.Stats{Entries: many * (1 + nulls), Nulls: many * nulls, Has: true, Min: c.least, Max: c.most}
			if got != want || err != nil {
				t.Errorf("%d: %+v, %v, not %+v", i, got, err, want)
			}
		}
	}
}

func TestP90OfNoValues(t *testing.T) {
	for _, kind := range kinds {
		if got, err := stats.Of(leafOf(kind), api.Column{ID: 1}); got != (stats.Stats{}) || err != nil {
			t.Error(got, err)
		}
		c := api.Column{ID: 1, Rep: []int{0, 0, 0}, Def: []int{0, 0, 0}, Values: []api.Value{}}
		if got, err := stats.Of(leafOf(kind), c); got != (stats.Stats{Entries: 3, Nulls: 3}) || err != nil {
			t.Error(got, err)
		}
	}
}

// TestP90OfLists: entries are counted, not records, and a Def below MaxDef is no value.
func TestP90OfLists(t *testing.T) {
	leaf := schema.Leaf{ID: 7, Kind: api.Int, MaxRep: 2, MaxDef: 3}
	c := api.Column{ID: 7, Rep: []int{0, 2, 1, 0, 0, 1}, Def: []int{3, 2, 3, 0, 1, 3}, Values: []api.Value{whole(8), whole(9), whole(7)}}
	want := stats.Stats{Entries: 6, Nulls: 3, Has: true, Min: whole(7), Max: whole(9)}
	if got, err := stats.Of(leaf, c); got != want || err != nil {
		t.Error(got, err)
	}
}

// TestP90OfMany: nothing bounds how many entries there are.
func TestP90OfMany(t *testing.T) {
	many := api.MaxEntries + 5
	values := make([]api.Value, many)
	for i := range values {
		values[i] = whole(int64((i * 7919) % many))
	}
	want := stats.Stats{Entries: 2 * many, Nulls: many, Has: true, Min: whole(0), Max: whole(int64(many - 1))}
	if got, err := stats.Of(leafOf(api.Int), column(values, 1)); got != want || err != nil {
		t.Error(got, err)
	}
}

func TestP90OfErrors(t *testing.T) {
	leaf := leafOf(api.Int)
	right := column([]api.Value{whole(1), whole(2)}, 1)
	kind, rep, def := leaf, leaf, leaf
	kind.Kind, rep.MaxRep, def.MaxDef = api.Group, -1, api.MaxNodes+1
	for i, c := range []struct {
		leaf schema.Leaf
		c    api.Column
	}{
		{kind, right}, {rep, right}, {def, right}, {schema.Leaf{}, api.Column{}},
		{schema.Leaf{ID: 2, Kind: api.Int, MaxDef: 1}, right},
		{leaf, api.Column{ID: 1, Rep: []int{0}}},
		{leaf, api.Column{ID: 1, Rep: []int{0, 1}, Def: []int{0, 0}}},
		{leaf, api.Column{ID: 1, Rep: []int{0, -1}, Def: []int{0, 0}}},
		{leaf, api.Column{ID: 1, Rep: []int{0}, Def: []int{2}}},
		{leaf, api.Column{ID: 1, Rep: []int{0}, Def: []int{-1}}},
		{schema.Leaf{ID: 1, Kind: api.Int, MaxRep: 1}, api.Column{ID: 1, Rep: []int{1}, Def: []int{0}, Values: []api.Value{whole(1)}}},
		{leaf, api.Column{ID: 1, Rep: []int{0}, Def: []int{1}}},
		{leaf, api.Column{ID: 1, Rep: []int{0}, Def: []int{0}, Values: []api.Value{whole(1)}}},
		{leaf, api.Column{ID: 1, Values: []api.Value{text("x")}}},
	} {
		if got, err := stats.Of(c.leaf, c.c); got != (stats.Stats{}) || err != api.ErrShape {
			t.Errorf("%d: %+v, %v", i, got, err)
		}
	}
	for _, v := range []api.Value{{}, text("x"), long(1), {Kind: api.Int, S: "x"}, whole(math.MaxInt32 + 1), whole(math.MinInt32 - 1)} {
		got, err := stats.Of(leaf, column([]api.Value{whole(1), v, v}, 1))
		var f *api.Fault
		if !errors.As(err, &f) || f.At != 1 || f.Err != api.ErrKind || got != (stats.Stats{}) {
			t.Errorf("%+v: %+v, %v", v, got, err)
		}
	}
}

func TestP90MergeKnown(t *testing.T) {
	// Where Has is not set, what stands in Min and Max is nothing.
	nothing := stats.Stats{Entries: 3, Nulls: 3, Min: text("x"), Max: long(9)}
	for i, c := range []struct{ a, b, want stats.Stats }{
		{stats.Stats{}, stats.Stats{}, stats.Stats{}},
		{nothing, nothing, stats.Stats{Entries: 6, Nulls: 6}},
		{between(whole(2), whole(5)), stats.Stats{}, between(whole(2), whole(5))},
		{between(whole(2), whole(5)), nothing, stats.Stats{Entries: 5, Nulls: 3, Has: true, Min: whole(2), Max: whole(5)}},
		{stats.Stats{Entries: 9, Nulls: 8, Has: true, Min: whole(3), Max: whole(3)}, stats.Stats{Entries: 4, Nulls: 1, Has: true, Min: whole(-3), Max: whole(2)},
			stats.Stats{Entries: 13, Nulls: 9, Has: true, Min: whole(-3), Max: whole(3)}},
		{between(whole(2), whole(9)), between(whole(3), whole(4)), stats.Stats{Entries: 4, Has: true, Min: whole(2), Max: whole(9)}},
		{between(text("a"), text("b")), between(text(""), text("b\x00")), stats.Stats{Entries: 4, Has: true, Min: text(""), Max: text("b\x00")}},
		{between(double(-1), double(1)), between(double(-2), double(-1)), stats.Stats{Entries: 4, Has: true, Min: double(-2), Max: double(1)}},
		{between(number(api.Bool, 0), number(api.Bool, 0)), between(number(api.Bool, 1), number(api.Bool, 1)), stats.Stats{Entries: 4, Has: true, Min: number(api.Bool, 0), Max: number(api.Bool, 1)}},
		// No more is asked of them: numbers below 0, kinds that are none, Max below Min.
		{stats.Stats{Entries: -4, Nulls: 7}, stats.Stats{Entries: 1, Nulls: -9}, stats.Stats{Entries: -3, Nulls: -2}},
		{between(number(9, 2), number(9, 1)), between(number(9, 4), number(9, 3)), stats.Stats{Entries: 4, Has: true, Min: number(9, 2), Max: number(9, 3)}},
	} {
		if got, err := stats.Merge(c.a, c.b); got != c.want || err != nil {
			t.Errorf("%d: %+v, %v, not %+v", i, got, err, c.want)
		}
		if got, err := stats.Merge(c.b, c.a); got != c.want || err != nil {
			t.Errorf("%d, turned: %+v, %v, not %+v", i, got, err, c.want)
		}
	}
}

// TestP3MergeTakesTheFirst of such that are as good by enc.Less (none of them a value).
func TestP3MergeTakesTheFirst(t *testing.T) {
	named := func(s string) stats.Stats {
		v := api.Value{Kind: api.Int, N: 4, S: s}
		return stats.Stats{Entries: 1, Has: true, Min: v, Max: v}
	}
	got, err := stats.Merge(named("first"), named("second"))
	if got.Min.S != "first" || got.Max.S != "first" || err != nil {
		t.Error(got, err)
	}
}

func TestP90MergeErrors(t *testing.T) {
	for _, a := range append(kinds, api.Group, 6, -1) {
		for _, b := range append(kinds, api.Group, 6, -1) {
			var want error
			if a != b {
				want = api.ErrKind
			}
			s := between(number(a, 1), number(a, 1))
			got, err := stats.Merge(s, between(number(b, 1), number(b, 1)))
			if err != want || err != nil && got != (stats.Stats{}) {
				t.Errorf("%d, %d: %+v, %v", a, b, got, err)
			}
			// Of one alone the kind may be any.
			if got, err := stats.Merge(s, stats.Stats{Min: number(b, 1), Max: number(b, 1)}); got != s || err != nil {
				t.Errorf("%d, %d: %+v, %v", a, b, got, err)
			}
		}
	}
}

func TestP93NoValueIsOutside(t *testing.T) {
	r := rand.New(rand.NewSource(93))
	for range 4000 {
		leaf, c := anyColumn(r, kinds[r.Intn(len(kinds))], r.Intn(12))
		s := mustOf(t, leaf, c)
		if s.Entries != len(c.Rep) || s.Nulls != len(c.Rep)-len(c.Values) || s.Has != (len(c.Values) > 0) {
			t.Fatalf("%+v: %+v", c, s)
		}
		for _, v := range c.Values {
			if enc.Less(v, s.Min) || enc.Less(s.Max, v) {
				t.Fatalf("%v is outside of %+v", v, s)
			}
		}
		if s.Has && (!slices.Contains(c.Values, s.Min) || !slices.Contains(c.Values, s.Max)) {
			t.Fatalf("%+v: %+v", c, s)
		}
		if !s.Has && s != (stats.Stats{Entries: len(c.Rep), Nulls: len(c.Rep)}) {
			t.Fatalf("%+v: %+v", c, s)
		}
	}
}

func TestP93MergedIsJoined(t *testing.T) {
	r := rand.New(rand.NewSource(930))
	for range 2000 {
		leaf, c := anyColumn(r, kinds[r.Intn(len(kinds))], r.Intn(12))
		all := shred.Count(c)
		for cut := range all + 1 {
			a, err := shred.Part(leaf, c, 0, cut)
			b, err2 := shred.Part(leaf, c, cut, all)
			if err != nil || err2 != nil {
				t.Fatal(err, err2)
			}
			got, err := stats.Merge(mustOf(t, leaf, a), mustOf(t, leaf, b))
			if want := mustOf(t, leaf, c); got != want || err != nil {
				t.Fatalf("%+v cut at %d: %+v, %v, not %+v", c, cut, got, err, want)
			}
		}
	}
}

func TestP4ColumnsAreOnlyRead(t *testing.T) {
	r := rand.New(rand.NewSource(4))
	for range 500 {
		leaf, c := anyColumn(r, kinds[r.Intn(len(kinds))], r.Intn(12))
		c.Rep = append(slices.Clone(c.Rep), 77)[:len(c.Rep)]
		c.Def = append(slices.Clone(c.Def), 77)[:len(c.Def)]
		c.Values = append(slices.Clone(c.Values), whole(77))[:len(c.Values)]
		all := func() string {
			return fmt.Sprint(leaf, c, c.Rep[:len(c.Rep)+1], c.Def[:len(c.Def)+1], c.Values[:len(c.Values)+1])
		}
		before := all()
		if s, again := mustOf(t, leaf, c), mustOf(t, leaf, c); s != again || all() != before {
			t.Fatalf("%+v, %+v: %s, ahead %s", s, again, all(), before)
		}
	}
}

// TestP1WhateverIsGiven: stats of any fields make no call panic.
func TestP1WhateverIsGiven(t *testing.T) {
	r := rand.New(rand.NewSource(1))
	anyNumber := func() int {
		return []int{0, 1, -1, 2, 3, api.MaxEntries, api.MaxEntries + 1, math.MaxInt, math.MinInt}[r.Intn(9)]
	}
	anything := func() api.Value {
		v := anyValue(r, kinds[r.Intn(len(kinds))])
		switch r.Intn(6) {
		case 0:
			v.Kind = r.Intn(9) - 2
		case 1:
			v.N = int64(r.Uint64())
		case 2:
			v.S = strings.Repeat("\xff", 95+r.Intn(12))
		}
		return v
	}
	hows := []string{"<", "<=", "=", "!=", ">", ">=", "", "==", "<>", "\x00"}
	for range 50000 {
		a := stats.Stats{Entries: anyNumber(), Nulls: anyNumber(), Has: r.Intn(4) > 0, Min: anything(), Max: anything()}
		b := stats.Stats{Entries: anyNumber(), Nulls: anyNumber(), Has: r.Intn(4) > 0, Min: anything(), Max: anything()}
		if s, err := stats.Merge(a, b); err != nil && (err != api.ErrKind || s != stats.Stats{}) {
			t.Fatalf("%+v, %+v: %+v, %v", a, b, s, err)
		}
		if may, err := stats.May(a, hows[r.Intn(len(hows))], anything()); err != nil && (may || err != api.ErrKind && err != api.ErrText) {
			t.Fatalf("%+v: %v, %v", a, may, err)
		}
		if s := stats.Text(a); len(s) < 3 {
			t.Fatalf("%+v: %q", a, s)
		}
	}
}
