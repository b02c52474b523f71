package shred_test

import (
	"fmt"
	"math"
	"math/rand"
	"slices"
	"testing"

	"shredcol/api"
	"shredcol/enc"
	"shredcol/schema"
	"shredcol/shred"
)

func whole(n int64) api.Value { return api.Value{Kind: api.Int, N: n} }

// someLeaf with both levels, and a column of four records.
func someLeaf() schema.Leaf {
	return schema.Leaf{ID: 4, Kind: api.Int, MaxRep: 2, MaxDef: 3, Path: []int{1, 2, 4}}
}

func someColumn() api.Column {
	return api.Column{
		ID:     4,
		Rep:    []int{0, 2, 1, 0, 0, 0, 1, 1},
		Def:    []int{3, 3, 1, 0, 3, 2, 3, 3},
		Values: []api.Value{whole(1), whole(2), whole(3), whole(4), whole(5)},
	}
}

func TestP62Count(t *testing.T) {
	for _, c := range []struct {
		rep  []int
		want int
	}{
		{nil, 0}, {[]int{}, 0}, {[]int{0}, 1}, {[]int{1}, 0}, {[]int{0, 0}, 2}, {[]int{0, 1, 2, 0, 1, 0}, 3},
		{[]int{-1, 0, math.MaxInt, 0, math.MinInt}, 2}, {make([]int, 30000), 30000},
	} {
		if n := shred.Count(api.Column{ID: 7, Rep: c.rep, Def: []int{0}}); n != c.want {
			t.Errorf("%d, not %d", n, c.want)
		}
	}
	if n := shred.Count(someColumn()); n != 4 {
		t.Error(n)
	}
}

func TestP62PartKnown(t *testing.T) {
	for _, c := range []struct {
		from, to int
		want     string
	}{
		{0, 0, "{4 [] [] []}"},
		{0, 1, "{4 [0 2 1] [3 3 1] [{2 1 } {2 2 }]}"},
		{1, 2, "{4 [0] [0] []}"},
		{2, 3, "{4 [0] [3] [{2 3 }]}"},
		{3, 4, "{4 [0 1 1] [2 3 3] [{2 4 } {2 5 }]}"},
		{1, 3, "{4 [0 0] [0 3] [{2 3 }]}"},
		{0, 3, "{4 [0 2 1 0 0] [3 3 1 0 3] [{2 1 } {2 2 } {2 3 }]}"},
		{2, 4, "{4 [0 0 1 1] [3 2 3 3] [{2 3 } {2 4 } {2 5 }]}"},
		{0, 4, "{4 [0 2 1 0 0 0 1 1] [3 3 1 0 3 2 3 3] [{2 1 } {2 2 } {2 3 } {2 4 } {2 5 }]}"},
		{2, 2, "{4 [] [] []}"},
		{4, 4, "{4 [] [] []}"},
	} {
		got, err := shred.Part(someLeaf(), someColumn(), c.from, c.to)
		if fmt.Sprint(got) != c.want || err != nil {
			t.Errorf("%d to %d: %v, %v, not %s", c.from, c.to, got, err, c.want)
		}
	}
	// A leaf that is always there: each entry has its value.
	leaf := schema.Leaf{ID: 1, Kind: api.Int}
	c := api.Column{ID: 1, Rep: []int{0, 0, 0}, Def: []int{0, 0, 0}, Values: []api.Value{whole(1), whole(2), whole(3)}}
	if got, err := shred.Part(leaf, c, 1, 3); fmt.Sprint(got) != "{1 [0 0] [0 0] [{2 2 } {2 3 }]}" || err != nil {
		t.Error(got, err)
	}
	// Path is not asked, and an ID may be any.
	for _, id := range []int{0, -1, math.MinInt, math.MaxInt} {
		leaf.ID, c.ID = id, id
		if got, err := shred.Part(leaf, c, 0, 0); got.ID != id || len(got.Rep)+len(got.Def)+len(got.Values) > 0 || err != nil {
			t.Error(got, err)
		}
		if got, err := shred.Join(leaf, []api.Column{c}); told(got) != told(c) || err != nil {
			t.Error(got, err)
		}
	}
}

// TestP62PartOfMany: how many entries there may be is bounded for Join alone.
func TestP62PartOfMany(t *testing.T) {
	leaf := schema.Leaf{ID: 1, Kind: api.Int, MaxDef: 1}
	c := api.Column{ID: 1, Rep: make([]int, 20001), Def: make([]int, 20001)}
	if got, err := shred.Part(leaf, c, 0, 20001); told(got) != told(c) || err != nil {
		t.Error(len(got.Rep), err)
	}
}

// wrongShapes: a leaf that is none, or a leaf and a column that are not each other's.
func wrongShapes() map[string]func(*schema.Leaf, *api.Column) {
	return map[string]func(*schema.Leaf, *api.Column){
		"kind 0":           func(leaf *schema.Leaf, c *api.Column) { leaf.Kind = 0 },
		"kind 6":           func(leaf *schema.Leaf, c *api.Column) { leaf.Kind = 6 },
		"kind -1":          func(leaf *schema.Leaf, c *api.Column) { leaf.Kind = -1 },
		"MaxRep -1":        func(leaf *schema.Leaf, c *api.Column) { leaf.MaxRep = -1 },
		"MaxRep 41":        func(leaf *schema.Leaf, c *api.Column) { leaf.MaxRep = 41 },
		"MaxRep most":      func(leaf *schema.Leaf, c *api.Column) { leaf.MaxRep = math.MaxInt },
		"MaxDef -1":        func(leaf *schema.Leaf, c *api.Column) { leaf.MaxDef = -1 },
		"MaxDef 41":        func(leaf *schema.Leaf, c *api.Column) { leaf.MaxDef = 41 },
		"none, no entries": func(leaf *schema.Leaf, c *api.Column) { leaf.MaxDef, *c = 41, api.Column{ID: 4} },
		"MaxDef -1 so far": func(leaf *schema.Leaf, c *api.Column) { leaf.MaxDef, *c = -1, api.Column{ID: 4} },
		"MaxRep -1 so far": func(leaf *schema.Leaf, c *api.Column) { leaf.MaxRep, *c = -1, api.Column{ID: 4} },
		"MaxRep 41 so far": func(leaf *schema.Leaf, c *api.Column) { leaf.MaxRep, *c = 41, api.Column{ID: 4} },
		"kind 0, nothing":  func(leaf *schema.Leaf, c *api.Column) { leaf.Kind, *c = 0, api.Column{ID: 4} },
		"kind 6, nothing":  func(leaf *schema.Leaf, c *api.Column) { leaf.Kind, *c = 6, api.Column{ID: 4} },
		"another ID":       func(leaf *schema.Leaf, c *api.Column) { c.ID = 5 },
		"ID 0":             func(leaf *schema.Leaf, c *api.Column) { c.ID = 0 },
		"only the ID":      func(leaf *schema.Leaf, c *api.Column) { *c = api.Column{ID: 1} },
		"a Rep more":       func(leaf *schema.Leaf, c *api.Column) { c.Rep = append(c.Rep, 0) },
		"a Def more":       func(leaf *schema.Leaf, c *api.Column) { c.Def = append(c.Def, 0) },
		"no Rep":           func(leaf *schema.Leaf, c *api.Column) { c.Rep = nil },
		"no Def":           func(leaf *schema.Leaf, c *api.Column) { c.Def, c.Values = nil, nil },
		"Rep 3":            func(leaf *schema.Leaf, c *api.Column) { c.Rep[7] = 3 },
		"Rep -1":           func(leaf *schema.Leaf, c *api.Column) { c.Rep[1] = -1 },
		"Def 4":            func(leaf *schema.Leaf, c *api.Column) { c.Def[3] = 4 },
		"Def -1":           func(leaf *schema.Leaf, c *api.Column) { c.Def[3] = -1 },
		"Def 4 at the end": func(leaf *schema.Leaf, c *api.Column) { c.Def[7], c.Values = 4, c.Values[:4] },
		"first Rep 1":      func(leaf *schema.Leaf, c *api.Column) { c.Rep[0] = 1 },
		"first Rep 2":      func(leaf *schema.Leaf, c *api.Column) { c.Rep[0] = 2 },
		"a value more":     func(leaf *schema.Leaf, c *api.Column) { c.Values = append(c.Values, whole(6)) },
		"a value less":     func(leaf *schema.Leaf, c *api.Column) { c.Values = c.Values[:4] },
		"no values":        func(leaf *schema.Leaf, c *api.Column) { c.Values = nil },
		"a Def less":       func(leaf *schema.Leaf, c *api.Column) { c.Def[0] = 2 },
		"values alone":     func(leaf *schema.Leaf, c *api.Column) { c.Rep, c.Def = nil, nil },
		"another MaxRep":   func(leaf *schema.Leaf, c *api.Column) { leaf.MaxRep = 1 },
		"another MaxDef":   func(leaf *schema.Leaf, c *api.Column) { leaf.MaxDef = 2 },
		"a greater MaxDef": func(leaf *schema.Leaf, c *api.Column) { leaf.MaxDef = 4 },
	}
}

func TestP62WrongShape(t *testing.T) {
	for name, spoil := range wrongShapes() {
		leaf, c := someLeaf(), someColumn()
		spoil(&leaf, &c)
		// Also ahead of what is wrong with values and with the bounds.
		worse := c
		worse.Values = slices.Clone(c.Values)
		if len(worse.Values) > 0 {
			worse.Values[0] = api.Value{}
		}
		for _, c := range []api.Column{c, worse} {
			for _, b := range [][2]int{{0, 0}, {0, 1}, {-1, 0}, {1, 0}, {0, 99}} {
				if got, err := shred.Part(leaf, c, b[0], b[1]); err != api.ErrShape || !isNothing(got) {
					t.Errorf("%s, %v: %v, %v", name, b, got, err)
				}
			}
			if got, err := shred.Join(leaf, []api.Column{c}); err != api.ErrShape || !isNothing(got) {
				t.Errorf("%s: joined: %v, %v", name, got, err)
			}
		}
	}
}

// TestP62GreatLevels: the greatest that a leaf may have.
func TestP62GreatLevels(t *testing.T) {
	leaf := schema.Leaf{ID: 1, Kind: api.Double, MaxRep: 40, MaxDef: 40}
	c := api.Column{ID: 1, Rep: []int{0, 40, 0}, Def: []int{40, 39, 0}, Values: []api.Value{{Kind: api.Double, N: -1}}}
	if got, err := shred.Part(leaf, c, 0, 2); told(got) != told(c) || err != nil {
		t.Error(got, err)
	}
	for kind := api.Bool; kind <= api.Double; kind++ {
		leaf.Kind = kind
		c.Values[0] = api.Value{Kind: kind}
		if got, err := shred.Join(leaf, []api.Column{c, {ID: 1}, c}); len(got.Values) != 2 || err != nil {
			t.Error(kind, got, err)
		}
	}
}

func TestP62WrongKind(t *testing.T) {
	for _, v := range []api.Value{{}, {Kind: api.Bool}, {Kind: api.Long}, {Kind: api.Bytes}, {Kind: api.Double}, {Kind: 6}, {Kind: -1}, {Kind: api.Int, N: 1 << 31}, {Kind: api.Int, N: -1<<31 - 1}, {Kind: api.Int, S: "x"}} {
		for at := range 5 {
			c := someColumn()
			c.Values[at] = v
			c.Values[4] = v
			// Ahead of the bounds, and of the number of entries.
			for _, b := range [][2]int{{0, 0}, {0, 4}, {2, 3}, {-1, 0}, {1, 0}, {0, 5}} {
				if got, err := shred.Part(someLeaf(), c, b[0], b[1]); !isFault(err, at, api.ErrKind) || !isNothing(got) {
					t.Errorf("%v: %v, %v", v, got, err)
				}
			}
			if got, err := shred.Join(someLeaf(), []api.Column{someColumn(), c}); !isFault(err, at, api.ErrKind) || !isNothing(got) {
				t.Errorf("%v: joined: %v, %v", v, got, err)
			}
		}
	}
	for kind := api.Bool; kind <= api.Double; kind++ {
		for _, v := range []api.Value{{N: 0}, {N: 1}, {N: 2}, {N: -1}, {N: math.MaxInt32}, {N: math.MinInt32}, {N: math.MaxInt32 + 1}, {N: math.MaxInt64}, {S: "x"}, {S: string(make([]byte, 100))}, {S: string(make([]byte, 101))}} {
			for v.Kind = 0; v.Kind <= 6; v.Kind++ {
				_, bad := enc.Plain(kind, []api.Value{v})
				leaf := schema.Leaf{ID: 1, Kind: kind}
				_, err := shred.Part(leaf, api.Column{ID: 1, Rep: []int{0}, Def: []int{0}, Values: []api.Value{v}}, 0, 1)
				if bad == nil && err != nil || bad != nil && !isFault(err, 0, api.ErrKind) {
					t.Errorf("%v of kind %d: %v", v, kind, err)
				}
			}
		}
	}
}

func TestP62Bounds(t *testing.T) {
	for _, b := range [][2]int{{-1, 0}, {-1, -1}, {-1, 5}, {1, 0}, {4, 3}, {0, 5}, {5, 5}, {4, 5}, {0, -1}, {0, math.MaxInt}, {math.MinInt, math.MaxInt}, {math.MaxInt, math.MaxInt}, {math.MaxInt, 0}, {0, math.MinInt}} {
		if got, err := shred.Part(someLeaf(), someColumn(), b[0], b[1]); err != api.ErrBound || !isNothing(got) {
			t.Errorf("%v: %v, %v", b, got, err)
		}
	}
	if got, err := shred.Part(someLeaf(), api.Column{ID: 4}, 0, 1); err != api.ErrBound || !isNothing(got) {
		t.Error(got, err)
	}
	if got, err := shred.Part(someLeaf(), api.Column{ID: 4}, 0, 0); told(got) != told(api.Column{ID: 4}) || err != nil {
		t.Error(got, err)
	}
}

func TestP62Join(t *testing.T) {
	one := api.Column{ID: 4, Rep: []int{0, 1}, Def: []int{3, 0}, Values: []api.Value{whole(9)}}
	empty := api.Column{ID: 4}
	for _, c := range []struct {
		l    []api.Column
		want string
	}{
		{nil, "{4 [] [] []}"},
		{[]api.Column{}, "{4 [] [] []}"},
		{[]api.Column{empty}, "{4 [] [] []}"},
		{[]api.Column{one}, "{4 [0 1] [3 0] [{2 9 }]}"},
		{[]api.Column{empty, one, empty}, "{4 [0 1] [3 0] [{2 9 }]}"},
		{[]api.Column{one, one}, "{4 [0 1 0 1] [3 0 3 0] [{2 9 } {2 9 }]}"},
		{[]api.Column{someColumn(), one}, "{4 [0 2 1 0 0 0 1 1 0 1] [3 3 1 0 3 2 3 3 3 0] [{2 1 } {2 2 } {2 3 } {2 4 } {2 5 } {2 9 }]}"},
		{[]api.Column{one, someColumn()}, "{4 [0 1 0 2 1 0 0 0 1 1] [3 0 3 3 1 0 3 2 3 3] [{2 9 } {2 1 } {2 2 } {2 3 } {2 4 } {2 5 }]}"},
	} {
		if got, err := shred.Join(someLeaf(), c.l); fmt.Sprint(got) != c.want || err != nil {
			t.Errorf("%v: %v, %v, not %s", c.l, got, err, c.want)
		}
	}
	// Where there is no column, there is none to have an error.
	if got, err := shred.Join(schema.Leaf{ID: 7, Kind: -1, MaxRep: -1}, nil); fmt.Sprint(got) != "{7 [] [] []}" || err != nil {
		t.Error(got, err)
	}
}

// TestP62JoinsErrors: of each column, in order; then the number of entries.
func TestP62JoinsErrors(t *testing.T) {
	shape, kind := someColumn(), someColumn()
	shape.Rep[0] = 1
	kind.Values[3] = whole(1 << 40)
	levels := make([]int, 19992)
	many := api.Column{ID: 4, Rep: levels, Def: levels}
	one := api.Column{ID: 4, Rep: levels[:1], Def: levels[:1]}
	more := api.Column{ID: 4, Rep: make([]int, 20001), Def: make([]int, 20001)}
	for i, c := range []struct {
		l   []api.Column
		at  int // -1: bare
		err error
	}{
		{[]api.Column{someColumn(), shape}, -1, api.ErrShape},
		{[]api.Column{shape, kind}, -1, api.ErrShape},
		{[]api.Column{kind, shape}, 3, api.ErrKind},
		{[]api.Column{someColumn(), kind, shape}, 3, api.ErrKind},
		{[]api.Column{someColumn(), many}, -1, nil},
		{[]api.Column{many, someColumn(), one}, -1, api.ErrBound},
		{[]api.Column{one, someColumn(), many}, -1, api.ErrBound},
		{[]api.Column{more}, -1, api.ErrBound},
		{[]api.Column{more, more, kind}, 3, api.ErrKind},
		{[]api.Column{more, shape, kind}, -1, api.ErrShape},
	} {
		got, err := shred.Join(someLeaf(), c.l)
		if c.at < 0 && err != c.err || c.at >= 0 && !isFault(err, c.at, c.err) {
			t.Errorf("%d: %v, not %d: %v", i, err, c.at, c.err)
		}
		if err != nil && !isNothing(got) || err == nil && len(got.Rep) != 20000 {
			t.Errorf("%d: %d entries, %v", i, len(got.Rep), err)
		}
	}
}

// anyColumn of a leaf, whether or not records have it.
func anyColumn(r *rand.Rand) (schema.Leaf, api.Column) {
	leaf := schema.Leaf{ID: r.Intn(3), Kind: 1 + r.Intn(5), MaxRep: r.Intn(3), MaxDef: r.Intn(4)}
	c := api.Column{ID: leaf.ID}
	for i := range r.Intn(12) {
		rep, def := r.Intn(leaf.MaxRep+1), r.Intn(leaf.MaxDef+1)
		if i == 0 {
			rep = 0
		}
		c.Rep, c.Def = append(c.Rep, rep), append(c.Def, def)
		if def == leaf.MaxDef {
			c.Values = append(c.Values, anyValue(r, leaf.Kind))
		}
	}
	return leaf, c
}

// recordsApart: the column record by record, its entries taken one by one.
func recordsApart(leaf schema.Leaf, c api.Column) []api.Column {
	var l []api.Column
	values := c.Values
	for i := range c.Rep {
		if c.Rep[i] == 0 {
			l = append(l, api.Column{ID: c.ID})
		}
		last := &l[len(l)-1]
		last.Rep, last.Def = append(last.Rep, c.Rep[i]), append(last.Def, c.Def[i])
		if c.Def[i] == leaf.MaxDef {
			last.Values, values = append(last.Values, values[0]), values[1:]
		}
	}
	return l
}

func TestP62ByTheRule(t *testing.T) {
	r := rand.New(rand.NewSource(62))
	for range 10000 {
		leaf, c := anyColumn(r)
		apart := recordsApart(leaf, c)
		if n := shred.Count(c); n != len(apart) {
			t.Fatalf("%s: %d, not %d", told(c), n, len(apart))
		}
		from := r.Intn(len(apart) + 1)
		to := from + r.Intn(len(apart)+1-from)
		want := api.Column{ID: c.ID}
		for _, one := range apart[from:to] {
			want.Rep = append(want.Rep, one.Rep...)
			want.Def = append(want.Def, one.Def...)
			want.Values = append(want.Values, one.Values...)
		}
		if got, err := shred.Part(leaf, c, from, to); told(got) != told(want) || err != nil {
			t.Fatalf("%s, %d to %d: %s, %v, not %s", told(c), from, to, told(got), err, told(want))
		}
		if got, err := shred.Join(leaf, apart); told(got) != told(c) || err != nil {
			t.Fatalf("%s, %v, not %s", told(got), err, told(c))
		}
	}
}

// errorOf a leaf and a column, by what a right one would have.
func errorOf(leaf schema.Leaf, c api.Column) (at int, err error) {
	levels := map[int]int{}
	for i := range 41 {
		levels[i] = i
	}
	if _, ok := levels[leaf.MaxRep]; !ok {
		return -1, api.ErrShape
	}
	if _, ok := levels[leaf.MaxDef]; !ok {
		return -1, api.ErrShape
	}
	if !slices.Contains([]int{1, 2, 3, 4, 5}, leaf.Kind) || leaf.ID != c.ID || len(c.Rep) != len(c.Def) {
		return -1, api.ErrShape
	}
	with := 0
	for i := range c.Rep {
		rep, isRep := levels[c.Rep[i]]
		def, isDef := levels[c.Def[i]]
		if !isRep || !isDef || rep > leaf.MaxRep || def > leaf.MaxDef || i == 0 && rep != 0 {
			return -1, api.ErrShape
		}
		if def == leaf.MaxDef {
			with++
		}
	}
	if with != len(c.Values) {
		return -1, api.ErrShape
	}
	for i, v := range c.Values {
		if _, err := enc.Plain(leaf.Kind, []api.Value{v}); err != nil {
			return i, api.ErrKind
		}
	}
	return -1, nil
}

// spoil one thing, which may leave it right.
func spoil(r *rand.Rand, leaf *schema.Leaf, c *api.Column) {
	numbers := []int{0, 1, 2, 3, 4, 5, 6, -1, 40, 41, math.MaxInt, math.MinInt}
	any := numbers[r.Intn(len(numbers))]
	place := func(n int) int { return r.Intn(max(1, n)) }
	switch r.Intn(10) {
	case 0:
		leaf.Kind = any
	case 1:
		leaf.MaxRep = any
	case 2:
		leaf.MaxDef = any
	case 3:
		c.ID = any
	case 4:
		c.Rep = append(c.Rep, any)
	case 5:
		c.Def = c.Def[:place(len(c.Def))]
	case 6:
		c.Values = append(c.Values, anyValue(r, 1+r.Intn(5)))
	case 7:
		if len(c.Rep) > 0 {
			c.Rep[place(len(c.Rep))] = any
		}
	case 8:
		if len(c.Def) > 0 {
			c.Def[place(len(c.Def))] = any
		}
	case 9:
		if len(c.Values) > 0 {
			c.Values[place(len(c.Values))] = api.Value{Kind: any, N: int64(numbers[r.Intn(len(numbers))])}
		}
	}
}

func TestP62ErrorsByTheRule(t *testing.T) {
	r := rand.New(rand.NewSource(621))
	seen := map[error]int{}
	for range 60000 {
		leaf, c := anyColumn(r)
		for range 1 + r.Intn(2) {
			spoil(r, &leaf, &c)
		}
		at, want := errorOf(leaf, c)
		seen[want]++
		_, part := shred.Part(leaf, c, 0, 0)
		_, join := shred.Join(leaf, []api.Column{{ID: leaf.ID}, c})
		for _, err := range []error{part, join} {
			if at < 0 && err != want || at >= 0 && !isFault(err, at, want) {
				t.Fatalf("%+v, %+v: %v, not %d: %v", leaf, c, err, at, want)
			}
		}
	}
	if len(seen) != 3 || seen[nil] < 1000 || seen[api.ErrKind] < 1000 {
		t.Error(seen)
	}
}

func TestP4OnlyReadByPartAndJoin(t *testing.T) {
	r := rand.New(rand.NewSource(42))
	behind := func(c api.Column) api.Column {
		c.Rep = append(slices.Clone(c.Rep), 0, 77)[:len(c.Rep)]
		c.Def = append(slices.Clone(c.Def), 0, 78)[:len(c.Def)]
		c.Values = append(slices.Clone(c.Values), whole(79))[:len(c.Values)]
		return c
	}
	all := func(c api.Column) string {
		return fmt.Sprint(c, c.Rep[:cap(c.Rep)], c.Def[:cap(c.Def)], c.Values[:cap(c.Values)])
	}
	for range 1000 {
		leaf, c := anyColumn(r)
		c = behind(c)
		before := all(c)
		many := shred.Count(c)
		for _, b := range [][2]int{{0, many}, {many / 2, many}, {0, many / 2}, {many, many}} {
			part, err := shred.Part(leaf, c, b[0], b[1])
			if err != nil || !listsApart([]api.Column{part}) {
				t.Fatalf("two lists of a part of %s share memory, or %v", before, err)
			}
		}
		for _, l := range [][]api.Column{{c}, {c, c}, {{ID: leaf.ID}, c}} {
			joined, err := shred.Join(leaf, l)
			if err != nil || !listsApart([]api.Column{joined}) {
				t.Fatalf("two lists of %s share memory, or %v", before, err)
			}
		}
		if all(c) != before {
			t.Fatalf("%s is now %s", before, all(c))
		}
	}
}

func TestP1NothingPanicsOfColumns(t *testing.T) {
	numbers := []int{0, 1, -1, 40, 41, math.MaxInt, math.MinInt}
	columns := []api.Column{{}, {Rep: []int{0}}, {Def: []int{0}}, {Values: make([]api.Value, 1)}, {Rep: numbers, Def: numbers}, {Rep: make([]int, 1<<20), Def: make([]int, 1<<20), Values: make([]api.Value, 1<<20)}}
	for _, max := range numbers {
		for kind := -1; kind < 7; kind++ {
			leaf := schema.Leaf{Kind: kind, MaxRep: max, MaxDef: max}
			for _, c := range columns {
				shred.Count(c)
				for _, from := range numbers {
					shred.Part(leaf, c, from, max)
				}
			}
			shred.Join(leaf, columns)
			shred.Join(leaf, slices.Repeat(columns[5:], 5))
		}
	}
	shred.Part(schema.Leaf{}, api.Column{}, 0, 0)
	shred.Join(schema.Leaf{}, make([]api.Column, 1<<16))
}
