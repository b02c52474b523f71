package shred_test

import (
	"fmt"
	"math"
	"math/rand"
	"reflect"
	"slices"
	"testing"

	"shredcol/api"
	"shredcol/data"
	"shredcol/schema"
	"shredcol/shred"
)

// Bare errors are held by ==, since those without a place must not be wrapped.

func schemaOf(s string) api.Node {
	root, err := schema.Read(s)
	if err != nil {
		panic(s + ": " + err.Error())
	}
	return root
}

func recordsOf(root api.Node, texts ...string) []api.Datum {
	var l []api.Datum
	for _, s := range texts {
		d, err := data.Read(root, s)
		if err != nil {
			panic(s + ": " + err.Error())
		}
		l = append(l, d)
	}
	return l
}

func leavesOf(root api.Node) []schema.Leaf {
	l, err := schema.Leaves(root)
	if err != nil {
		panic(err)
	}
	return l
}

// shredded without an error.
func shredded(t *testing.T, root api.Node, l []api.Datum) []api.Column {
	t.Helper()
	out, err := shred.Shred(root, l)
	if err != nil {
		t.Fatalf("%+v of %+v: %v", l, root, err)
	}
	return out
}

// told: a column's text, for which a nil list and an empty one are one thing.
func told(c api.Column) string {
	s := fmt.Sprintf("%d %v %v", c.ID, c.Rep, c.Def)
	for _, v := range c.Values {
		s += fmt.Sprintf(" %d/%d/%q", v.Kind, v.N, v.S)
	}
	return s
}

func toldAll(l []api.Column) string {
	s := ""
	for _, c := range l {
		s += told(c) + "\n"
	}
	return s
}

func isNothing(c api.Column) bool {
	return c.ID == 0 && len(c.Rep) == 0 && len(c.Def) == 0 && len(c.Values) == 0
}

func isFault(err error, at int, why error) bool {
	f, ok := err.(*api.Fault)
	return ok && f.At == at && f.Err == why
}

// anySchema: right, with nodes of all kinds.
func anySchema(r *rand.Rand, left int) api.Node {
	ids := r.Perm(api.MaxID)
	var nodes func(deep int) []api.Node
	nodes = func(deep int) []api.Node {
		var l []api.Node
		for left > 0 && (len(l) == 0 || r.Intn(3) > 0) {
			left--
			n := api.Node{ID: ids[left] + 1, Name: string(rune('a'+len(l)%26)) + []string{"", "a"}[len(l)/26], Rep: 1 + r.Intn(3), Kind: 1 + r.Intn(5)}
			if left > 0 && deep < api.MaxDeep && r.Intn(3) > 0 {
				n.Kind, n.Sub = api.Group, nodes(deep+1)
			}
			l = append(l, n)
		}
		return l
	}
	return api.Node{Name: "root", Rep: api.Required, Kind: api.Group, Sub: nodes(2)}
}

func anyValue(r *rand.Rand, kind int) api.Value {
	v := api.Value{Kind: kind}
	switch kind {
	case api.Bool:
		v.N = int64(r.Intn(2))
	case api.Int:
		v.N = int64(int32(r.Uint64()))
	case api.Long, api.Double:
		v.N = int64(r.Uint64())
	case api.Bytes:
		b := make([]byte, r.Intn(4))
		r.Read(b)
		v.S = string(b)
	}
	return v
}

// anyDatum that is right for the node.
func anyDatum(r *rand.Rand, n api.Node) api.Datum {
	if n.Rep == api.Optional && r.Intn(3) == 0 {
		return api.Datum{None: true}
	}
	var d api.Datum
	if n.Rep == api.Repeated {
		n.Rep = api.Required
		for range r.Intn(4) {
			d.L = append(d.L, anyDatum(r, n))
		}
		return d
	}
	if n.Kind != api.Group {
		return api.Datum{V: anyValue(r, n.Kind)}
	}
	for _, in := range n.Sub {
		d.F = append(d.F, anyDatum(r, in))
	}
	return d
}

func anyRecords(r *rand.Rand) (api.Node, []api.Datum) {
	root := anySchema(r, 1+r.Intn(12))
	var l []api.Datum
	for range r.Intn(5) {
		l = append(l, anyDatum(r, root))
	}
	return root, l
}

func TestP60Known(t *testing.T) {
	document := "required int a #1; optional group b #2 { repeated group c #3 { optional bytes d #4; required bool e #5; } }"
	for _, c := range []struct {
		schema  string
		records []string
		want    string
	}{
		{"required int a #1;", nil, "{1 [] [] []}\n"},
		{"required int a #1;", []string{"{a:5}", "{a:6}"}, "{1 [0 0] [0 0] [{2 5 } {2 6 }]}\n"},
		{"optional bytes a #9;", []string{"{a:null}", `{a:"x"}`, `{a:""}`}, "{9 [0 0 0] [0 1 1] [{4 0 x} {4 0 }]}\n"},
		{"repeated bool a #1;", []string{"{a:[]}", "{a:[true]}", "{a:[false,true,false]}"}, "{1 [0 0 0 1 1] [0 1 1 1 1] [{1 1 } {1 0 } {1 1 } {1 0 }]}\n"},
		{document, nil, "{1 [] [] []}\n{4 [] [] []}\n{5 [] [] []}\n"},
		{document, []string{`{a:7,b:{c:[{d:null,e:true},{d:"x",e:false}]}}`, "{a:8,b:null}", "{a:9,b:{c:[]}}"},
			"{1 [0 0 0] [0 0 0] [{2 7 } {2 8 } {2 9 }]}\n" +
				"{4 [0 1 0 0] [2 3 0 1] [{4 0 x}]}\n" +
				"{5 [0 1 0 0] [2 2 0 1] [{1 1 } {1 0 }]}\n"},
		// Lists in lists: the outer one's level where both begin anew.
		{"repeated group a #1 { repeated int b #2; }", []string{"{a:[{b:[1,2]},{b:[]},{b:[3]}]}", "{a:[]}"}, "{2 [0 2 1 1 0] [2 2 1 2 0] [{2 1 } {2 2 } {2 3 }]}\n"},
		{"repeated group a #1 { repeated group b #2 { repeated int c #3; } }", []string{"{a:[{b:[{c:[1,2]},{c:[]},{c:[3]}]},{b:[]},{b:[{c:[]},{c:[4]}]}]}"}, "{3 [0 3 2 2 1 1 2] [3 3 2 3 1 2 3] [{2 1 } {2 2 } {2 3 } {2 4 }]}\n"},
		// Required ones between count for neither level, wherever they stand.
		{"required group a #1 { repeated group b #2 { required group c #3 { optional group d #4 { required int e #5; } } } }", []string{"{a:{b:[]}}", "{a:{b:[{c:{d:null}},{c:{d:{e:1}}}]}}"}, "{5 [0 0 1] [0 1 2] [{2 1 }]}\n"},
		// A list below a None, one below a list without elements.
		{"optional group a #1 { repeated group b #2 { optional int c #3; } repeated int d #4; }", []string{"{a:null}", "{a:{b:[],d:[]}}", "{a:{b:[{c:null},{c:1}],d:[2,3]}}"},
			"{3 [0 0 0 1] [0 1 2 3] [{2 1 }]}\n{4 [0 0 0 1] [0 1 2 2] [{2 2 } {2 3 }]}\n"},
	} {
		root := schemaOf(c.schema)
		got := ""
		for _, column := range shredded(t, root, recordsOf(root, c.records...)) {
			got += fmt.Sprintln(column)
		}
		if got != c.want {
			t.Errorf("%s: %v:\n%snot\n%s", c.schema, c.records, got, c.want)
		}
	}
}

// found: an entry by where it stands: the places in the lists around it, and how many
// nodes of the path are there.
type found struct {
	places []int
	there  int
	value  api.Value
}

// foundIn d, below the nodes of which the path goes on.
func foundIn(nodes []api.Node, path []int, d api.Datum, so found) []found {
	if len(path) == 0 {
		so.value = d.V
		return []found{so}
	}
	i := slices.IndexFunc(nodes, func(n api.Node) bool { return n.ID == path[0] })
	in := d.F[i]
	elements := []api.Datum{in}
	if in.None || nodes[i].Rep == api.Repeated {
		elements = in.L
	}
	if len(elements) == 0 {
		return []found{so}
	}
	var l []found
	for place, element := range elements {
		next := found{places: slices.Clone(so.places), there: so.there + 1}
		if nodes[i].Rep == api.Repeated {
			next.places = append(next.places, place)
		}
		l = append(l, foundIn(nodes[i].Sub, path[1:], element, next)...)
	}
	return l
}

// columnByTheRule: levels told from where the entries stand: Rep by the first list in
// which an entry's place is not that of the one ahead.
func columnByTheRule(root api.Node, leaf schema.Leaf, l []api.Datum) api.Column {
	c := api.Column{ID: leaf.ID}
	for _, d := range l {
		var ahead []int
		for k, e := range foundIn(root.Sub, leaf.Path, d, found{}) {
			rep, def := 0, 0
			if k > 0 {
				for ahead[rep] == e.places[rep] {
					rep++
				}
				rep++
			}
			for _, id := range leaf.Path[:e.there] {
				if n, _ := schema.Find(root, id); n.Rep != api.Required {
					def++
				}
			}
			c.Rep, c.Def, ahead = append(c.Rep, rep), append(c.Def, def), e.places
			if e.there == len(leaf.Path) {
				c.Values = append(c.Values, e.value)
			}
		}
	}
	return c
}

func TestP60ByTheRule(t *testing.T) {
	r := rand.New(rand.NewSource(60))
	deepest := 0
	for range 4000 {
		root, l := anyRecords(r)
		got := shredded(t, root, l)
		leaves := leavesOf(root)
		if len(got) != len(leaves) {
			t.Fatalf("%d columns of %d leaves", len(got), len(leaves))
		}
		for i, leaf := range leaves {
			want := columnByTheRule(root, leaf, l)
			if told(got[i]) != told(want) {
				t.Fatalf("%+v of %+v:\n%s\nnot\n%s", l, root, told(got[i]), told(want))
			}
			deepest = max(deepest, slices.Max(append(got[i].Rep, 0)))
		}
	}
	if deepest != api.MaxDeep-1 {
		t.Errorf("levels up to %d only", deepest)
	}
}

func TestP61Errors(t *testing.T) {
	root := schemaOf("required int a #1; repeated long b #2;")
	right := recordsOf(root, "{a:1,b:[2,3]}")[0]
	twice, wide := root, root
	twice.Sub = []api.Node{root.Sub[0], root.Sub[0]}
	wide.Sub = slices.Repeat(root.Sub, 20)
	long := right
	long.F = slices.Clone(right.F)
	long.F[1] = api.Datum{L: slices.Repeat([]api.Datum{{V: api.Value{Kind: api.Long}}}, 41)}
	kind := right
	kind.F = []api.Datum{{V: api.Value{Kind: api.Long}}, {}}
	many := slices.Repeat([]api.Datum{right}, 101)
	for i, c := range []struct {
		root api.Node
		l    []api.Datum
		at   int // -1: bare
		err  error
	}{
		{root, many[:100], -1, nil},
		{root, many, -1, api.ErrBound},
		{root, make([]api.Datum, 101), -1, api.ErrBound},
		{root, make([]api.Datum, 100), 0, api.ErrShape},
		{root, []api.Datum{right, {}}, 1, api.ErrShape},
		{root, []api.Datum{right, right, kind, {}, long}, 2, api.ErrKind},
		{root, []api.Datum{long, kind, {}}, 0, api.ErrBound},
		{root, append(slices.Clone(many[:99]), long), 99, api.ErrBound},
		{api.Node{}, nil, -1, api.ErrShape},
		{api.Node{}, many, -1, api.ErrShape},
		{twice, many, -1, api.ErrName},
		{twice, []api.Datum{{}}, -1, api.ErrName},
		{wide, []api.Datum{{}}, -1, api.ErrBound},
	} {
		got, err := shred.Shred(c.root, c.l)
		if c.at < 0 && err != c.err || c.at >= 0 && !isFault(err, c.at, c.err) {
			t.Errorf("%d: %v, not %d: %v", i, err, c.at, c.err)
		}
		if err != nil && len(got) > 0 {
			t.Errorf("%d: %v with an error", i, got)
		}
	}
}

// full: 100 records of which the columns of ahead and a have 100 entries, that of c 20000.
func full(element api.Datum) []api.Datum {
	five := api.Datum{F: []api.Datum{{L: slices.Repeat([]api.Datum{element}, 5)}}}
	forty := api.Datum{L: slices.Repeat([]api.Datum{five}, 40)}
	var l []api.Datum
	for range 100 {
		l = append(l, api.Datum{F: []api.Datum{{V: api.Value{Kind: api.Int}}, {L: slices.Clone(forty.L)}}})
	}
	return l
}

// TestP61TooManyEntries of one column, with values and without.
func TestP61TooManyEntries(t *testing.T) {
	lists := schemaOf("required int a #1; repeated group b #2 { repeated int c #3; }")
	nones := schemaOf("required int a #1; repeated group b #2 { repeated group c #3 { optional int d #4; } }")
	empty := schemaOf("required int a #1; repeated group b #2 { repeated group c #3 { repeated int d #4; } }")
	for i, c := range []struct {
		root    api.Node
		element api.Datum
		values  int
	}{
		{lists, api.Datum{V: api.Value{Kind: api.Int, N: 7}}, 20000},
		{nones, api.Datum{F: []api.Datum{{None: true}}}, 0},
		{nones, api.Datum{F: []api.Datum{{V: api.Value{Kind: api.Int, N: 7}}}}, 20000},
		{empty, api.Datum{F: []api.Datum{{}}}, 0},
	} {
		l := full(c.element)
		got := shredded(t, c.root, l)
		if n := len(got[1].Rep); n != 20000 || len(got[1].Def) != n || len(got[1].Values) != c.values || len(got[0].Rep) != 100 {
			t.Errorf("%d: %d entries, %d values", i, n, len(got[1].Values))
		}
		// One element more, of any record.
		for _, k := range []int{0, 50, 99} {
			more := full(c.element)
			more[k].F[1].L[0] = api.Datum{F: []api.Datum{{L: slices.Repeat([]api.Datum{c.element}, 6)}}}
			if got, err := shred.Shred(c.root, more); err != api.ErrBound || len(got) > 0 {
				t.Errorf("%d, %d: %d columns, %v", i, k, len(got), err)
			}
			// A record that is wrong is told first, wherever it stands.
			more[99].F[0] = api.Datum{None: true}
			if got, err := shred.Shred(c.root, more); !isFault(err, 99, api.ErrShape) || len(got) > 0 {
				t.Errorf("%d, %d: %d columns, %v", i, k, len(got), err)
			}
		}
	}
}

func TestP63OfRecords(t *testing.T) {
	r := rand.New(rand.NewSource(63))
	for range 1500 {
		root, l := anyRecords(r)
		columns := shredded(t, root, l)
		for i, leaf := range leavesOf(root) {
			c := columns[i]
			if n := shred.Count(c); n != len(l) {
				t.Fatalf("%d of %d records: %+v", n, len(l), c)
			}
			var walked []api.Value
			for k, d := range l {
				values, err := data.Walk(root, d, leaf.ID)
				if err != nil {
					t.Fatal(err)
				}
				one, err := shred.Part(leaf, c, k, k+1)
				if err != nil || !slices.Equal(one.Values, values) {
					t.Fatalf("record %d: %v, %v, not %v", k, one, err, values)
				}
				walked = append(walked, values...)
			}
			if !slices.Equal(c.Values, walked) {
				t.Fatalf("%v, not %v", c.Values, walked)
			}
			// Parts are those of the records, and joined the whole.
			from := r.Intn(len(l) + 1)
			to := from + r.Intn(len(l)+1-from)
			var parts []api.Column
			for _, b := range [][2]int{{0, from}, {from, to}, {to, len(l)}} {
				part, err := shred.Part(leaf, c, b[0], b[1])
				want := shredded(t, root, l[b[0]:b[1]])[i]
				if err != nil || told(part) != told(want) {
					t.Fatalf("%v of %s: %s, %v, not %s", b, told(c), told(part), err, told(want))
				}
				parts = append(parts, part)
			}
			joined, err := shred.Join(leaf, parts)
			if err != nil || told(joined) != told(c) {
				t.Fatalf("%s, %v, not %s", told(joined), err, told(c))
			}
		}
	}
}

// lists of a column, as far as their memory goes, written over with other numbers.
func overwrite(c api.Column, number int) int {
	for _, l := range [][]int{c.Rep, c.Def} {
		for i := range l[:cap(l)] {
			number++
			l[:cap(l)][i] = number
		}
	}
	for i := range c.Values[:cap(c.Values)] {
		number++
		c.Values[:cap(c.Values)][i] = api.Value{N: int64(number)}
	}
	return number
}

// stillThere: what overwrite wrote, so no two lists share memory.
func stillThere(c api.Column, number int) (int, bool) {
	ok := true
	for _, l := range [][]int{c.Rep, c.Def} {
		for _, n := range l[:cap(l)] {
			number++
			ok = ok && n == number
		}
	}
	for _, v := range c.Values[:cap(c.Values)] {
		number++
		ok = ok && v.N == int64(number)
	}
	return number, ok
}

func listsApart(l []api.Column) bool {
	number, apart := 0, true
	for _, c := range l {
		number = overwrite(c, number)
	}
	number = 0
	for _, c := range l {
		var ok bool
		number, ok = stillThere(c, number)
		apart = apart && ok
	}
	return apart
}

func TestP4OnlyReadByShred(t *testing.T) {
	r := rand.New(rand.NewSource(4))
	for range 300 {
		root, l := anyRecords(r)
		root.Sub = append(slices.Clone(root.Sub), api.Node{ID: -1})[:len(root.Sub)]
		l = append(slices.Clone(l), api.Datum{None: true, V: api.Value{Kind: 9}})[:len(l)]
		before := fmt.Sprint(root, root.Sub[:cap(root.Sub)], l, l[:cap(l)])
		got := shredded(t, root, l)
		want := toldAll(got)
		if !listsApart(got) {
			t.Fatalf("two lists of %s share memory", want)
		}
		if fmt.Sprint(root, root.Sub[:cap(root.Sub)], l, l[:cap(l)]) != before {
			t.Fatalf("%+v of %+v was changed", l, root)
		}
		if again := toldAll(shredded(t, root, l)); again != want {
			t.Fatalf("%s, not %s", again, want)
		}
	}
}

// TestP1NothingPanics, with lists that are shared so that they seem endless.
func TestP1NothingPanics(t *testing.T) {
	endless := api.Datum{}
	for range 60 {
		l := slices.Repeat([]api.Datum{endless}, 3)
		endless = api.Datum{None: true, V: api.Value{Kind: 9}, L: l, F: l}
	}
	nodes := api.Node{ID: 1, Name: "a", Rep: api.Required, Kind: api.Int}
	for range 60 {
		nodes = api.Node{ID: 1, Name: "a", Rep: api.Required, Sub: []api.Node{nodes, nodes, nodes}}
	}
	small := schemaOf("optional group a #1 { repeated int b #2; }")
	for _, root := range []api.Node{{}, small, nodes, {Name: "root", Rep: api.Required}, {Name: "root", Rep: api.Required, Sub: []api.Node{{}}}} {
		for _, l := range [][]api.Datum{nil, {}, {{}}, {endless}, {{L: []api.Datum{endless}}}, {{F: []api.Datum{endless}}}, {{F: make([]api.Datum, 1<<20)}}, make([]api.Datum, 1<<20)} {
			shred.Shred(root, l)
		}
	}
}

// TestP1AsManyAsCanBe: lists in lists, all full, each shared by all.
func TestP1AsManyAsCanBe(t *testing.T) {
	root := schemaOf("required int z #9; repeated group a #1 { repeated group a #2 { repeated group a #3 { repeated int a #5; } } }")
	d := api.Datum{L: slices.Repeat([]api.Datum{{V: api.Value{Kind: api.Int}}}, 40)}
	for range 3 {
		d = api.Datum{L: slices.Repeat([]api.Datum{{F: []api.Datum{d}}}, 40)}
	}
	record := api.Datum{F: []api.Datum{{V: api.Value{Kind: api.Int}}, d}}
	if l, err := shred.Shred(root, []api.Datum{record, record}); err != api.ErrBound || len(l) > 0 {
		t.Errorf("%d columns, %v", len(l), err)
	}
}

func TestP61ManyLeaves(t *testing.T) {
	root := api.Node{Name: "root", Rep: api.Required}
	var d api.Datum
	for i := range 39 {
		name := string(rune('a'+i/26)) + string(rune('a'+i%26))
		root.Sub = append(root.Sub, api.Node{ID: 1000 - i, Name: name, Rep: api.Required, Kind: api.Long})
		d.F = append(d.F, api.Datum{V: api.Value{Kind: api.Long, N: math.MinInt64 + int64(i)}})
	}
	got := shredded(t, root, []api.Datum{d})
	if len(got) != 39 {
		t.Fatal(len(got))
	}
	for i, c := range got {
		want := api.Column{ID: 1000 - i, Rep: []int{0}, Def: []int{0}, Values: []api.Value{d.F[i].V}}
		if !reflect.DeepEqual(c, want) {
			t.Errorf("%+v, not %+v", c, want)
		}
	}
}
