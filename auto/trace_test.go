package auto_test

import (
	"fmt"
	"math"
	"math/rand"
	"slices"
	"testing"

	"shredcol/api"
	"shredcol/assemble"
	"shredcol/auto"
	"shredcol/data"
	"shredcol/schema"
	"shredcol/shred"
)

func recordsOf(root api.Node, texts ...string) []api.Datum {
	var l []api.Datum
	for _, s := range texts {
		d, err := data.Read(root, s)
		if err != nil {
			panic(s + ": " + err.Error())
		}
		l = append(l, d)
	}
	return l
}

// shredded by Shred, as many at once as it takes.
func shredded(root api.Node, l []api.Datum) []api.Column {
	var out []api.Column
	leaves := leavesOf(root)
	for _, leaf := range leaves {
		out = append(out, api.Column{ID: leaf.ID})
	}
	for some := range slices.Chunk(l, api.MaxRecords) {
		part, err := shred.Shred(root, some)
		if err != nil {
			panic(err)
		}
		for i, leaf := range leaves {
			out[i], err = shred.Join(leaf, []api.Column{out[i], part[i]})
			if err != nil {
				panic(err)
			}
		}
	}
	return out
}

// anyDatum that is right for the node, its values as small as they may be.
func anyDatum(r *rand.Rand, n api.Node) api.Datum {
	if n.Rep == api.Optional && r.Intn(3) == 0 {
		return api.Datum{None: true}
	}
	var d api.Datum
	if n.Rep == api.Repeated {
		n.Rep = api.Required
		for range r.Intn(4) {
			d.L = append(d.L, anyDatum(r, n))
		}
		return d
	}
	if n.Kind != api.Group {
		return api.Datum{V: api.Value{Kind: n.Kind}}
	}
	for _, in := range n.Sub {
		d.F = append(d.F, anyDatum(r, in))
	}
	return d
}

func anyRecords(r *rand.Rand, nodes, records int) (api.Node, []api.Datum) {
	root := anySchema(r, 1+r.Intn(nodes))
	var l []api.Datum
	for range r.Intn(records) {
		l = append(l, anyDatum(r, root))
	}
	return root, l
}

func TestP81Known(t *testing.T) {
	for _, c := range []struct {
		schema  string
		records []string
		want    string
	}{
		{"required int a #1;", nil, "[]"},
		{"required int a #1;", []string{"{a:1}"}, "[0]"},
		{"optional int a #1; required int b #2;", []string{"{a:null,b:1}", "{a:1,b:1}"}, "[0 1 0 1]"},
		{"repeated int a #1;", []string{"{a:[]}", "{a:[1]}", "{a:[1,2,3]}", "{a:[]}"}, "[0 0 0 0 0 0]"},
		{"repeated int a #1; repeated int b #2;", []string{"{a:[1,2],b:[1,2,3]}", "{a:[],b:[]}", "{a:[],b:[1,2]}", "{a:[1,2],b:[]}"}, "[0 0 1 1 1 0 1 0 1 1 0 0 1]"},
		{"repeated group a #1 { required int b #2; optional int c #3; }", []string{"{a:[{b:1,c:null},{b:2,c:3}]}", "{a:[]}", "{a:[{b:1,c:1}]}"}, "[0 1 0 1 0 1 0 1]"},
		{"repeated group a #1 { repeated int b #2; repeated int c #3; }", []string{"{a:[{b:[1,2],c:[]},{b:[],c:[1,2,3]},{b:[],c:[]}]}", "{a:[]}"}, "[0 0 1 0 1 1 1 0 1 0 1]"},
		{"optional group a #1 { repeated group b #2 { required int c #3; required int d #4; } required int e #5; }", []string{"{a:null}", "{a:{b:[],e:1}}", "{a:{b:[{c:1,d:2},{c:3,d:4}],e:5}}"}, "[0 1 2 0 1 2 0 1 0 1 2]"},
		{"required int a #1; repeated group b #2 { required int c #3; repeated group d #4 { required int e #5; required int f #6; } } required int g #7;",
			[]string{"{a:1,b:[{c:2,d:[{e:3,f:4},{e:5,f:6}]},{c:7,d:[]}],g:8}", "{a:1,b:[],g:2}"}, "[0 1 2 3 2 3 1 2 3 4 0 1 2 3 4]"},
		{web, []string{
			`{docid:10,links:{backward:[],forward:[20,40,60]},name:[{language:[{code:"en-us",country:"us"},{code:"en",country:null}],url:"a"},{language:[],url:"b"},{language:[{code:"en-gb",country:"gb"}],url:null}]}`,
			`{docid:20,links:{backward:[10,30],forward:[80]},name:[{language:[],url:"c"}]}`,
			`{docid:30,links:null,name:[]}`,
		}, "[0 1 2 2 2 3 4 3 4 5 3 4 5 3 4 5 0 1 1 2 3 4 5 0 1 2 3 4 5]"},
	} {
		root := schemaOf(c.schema)
		got, err := auto.Trace(root, shredded(root, recordsOf(root, c.records...)))
		if fmt.Sprint(got) != c.want || err != nil {
			t.Errorf("%s: %v: %v, %v, not %s", c.schema, c.records, got, err, c.want)
		}
	}
}

// order in which a record's entries are met, going through it node by node and element by
// element: what is not there, or is a list of none, has an entry of each leaf in it.
type order struct{ leaves, met []int }

func (o *order) node(n api.Node, d api.Datum) {
	switch {
	case d.None, n.Rep == api.Repeated && len(d.L) == 0:
		o.none(n)
	case n.Rep == api.Repeated:
		n.Rep = api.Required
		for _, element := range d.L {
			o.node(n, element)
		}
	case n.Kind != api.Group:
		o.none(n)
	default:
		for i, in := range n.Sub {
			o.node(in, d.F[i])
		}
	}
}

func (o *order) none(n api.Node) {
	if n.Kind != api.Group {
		o.met = append(o.met, slices.Index(o.leaves, n.ID))
	}
	for _, in := range n.Sub {
		o.none(in)
	}
}

// orders of all records, one behind the other, and where each record's begins.
func orders(root api.Node, l []api.Datum) ([]int, []int) {
	var o order
	for _, leaf := range leavesOf(root) {
		o.leaves = append(o.leaves, leaf.ID)
	}
	var begins []int
	for _, d := range l {
		begins = append(begins, len(o.met))
		o.node(root, d)
	}
	return o.met, begins
}

func holdTrace(t *testing.T, root api.Node, l []api.Datum) {
	t.Helper()
	got, err := auto.Trace(root, shredded(root, l))
	if want, _ := orders(root, l); !slices.Equal(got, want) || err != nil {
		t.Fatalf("%+v: %+v: %v, %v, not %v", root, l, got, err, want)
	}
}

func TestP81InTheRecordsOrder(t *testing.T) {
	r := rand.New(rand.NewSource(81))
	for range 3000 {
		root, l := anyRecords(r, 20, 6)
		holdTrace(t, root, l)
	}
	for many := 1; many <= 4; many++ {
		for _, nodes := range allForests(many) {
			last := 0
			root := rootOf(named(nodes, &last))
			var l []api.Datum
			for range 4 {
				l = append(l, anyDatum(r, root))
			}
			holdTrace(t, root, l)
		}
	}
}

// TestP81Bounds: more records than MaxRecords, up to MaxEntries; lists of MaxList, and of
// one more.
func TestP81Bounds(t *testing.T) {
	root := schemaOf("required int a #1; optional int b #2;")
	for _, many := range []int{100, 101, 20000, 20001} {
		values := slices.Repeat([]api.Value{{Kind: api.Int}}, many)
		levels := make([]int, many)
		got, err := auto.Trace(root, []api.Column{{ID: 1, Rep: levels, Def: levels, Values: values}, {ID: 2, Rep: levels, Def: levels}})
		if many > 20000 {
			if err != api.ErrShape || len(got) > 0 {
				t.Errorf("%d: %d, %v", many, len(got), err)
			}
			continue
		}
		if !slices.Equal(got, slices.Repeat([]int{0, 1}, many)) || err != nil {
			t.Errorf("%d: %d, %v", many, len(got), err)
		}
	}
	lists := schemaOf("repeated group a #1 { optional int b #2; optional int c #3; }")
	for _, many := range []int{40, 41} {
		rep := append([]int{0}, slices.Repeat([]int{1}, many-1)...)
		def := slices.Repeat([]int{1}, many)
		got, err := auto.Trace(lists, []api.Column{{ID: 2, Rep: rep, Def: def}, {ID: 3, Rep: rep, Def: def}})
		if many > 40 {
			if err != api.ErrShape || len(got) > 0 {
				t.Errorf("%d: %d, %v", many, len(got), err)
			}
			continue
		}
		if !slices.Equal(got, slices.Repeat([]int{0, 1}, many)) || err != nil {
			t.Errorf("%d: %d, %v", many, len(got), err)
		}
	}
}

func isSame(got, want error) bool {
	f, ok := got.(*api.Fault)
	g, is := want.(*api.Fault)
	if ok && is {
		return *f == *g
	}
	return ok == is && got == want
}

func TestP81Errors(t *testing.T) {
	root := schemaOf("required int a #1; repeated group b #2 { required int c #3; optional int d #4; }")
	right := func() []api.Column {
		return shredded(root, recordsOf(root, "{a:1,b:[{c:2,d:null},{c:3,d:4}]}", "{a:5,b:[]}"))
	}
	if got, err := auto.Trace(root, right()); fmt.Sprint(got) != "[0 1 2 1 2 0 1 2]" || err != nil {
		t.Fatal(got, err)
	}
	kind := func(i, at int) func([]api.Column) []api.Column {
		return func(l []api.Column) []api.Column { l[i].Values[at].Kind = api.Long; return l }
	}
	for name, c := range map[string]struct {
		spoil func(l []api.Column) []api.Column
		err   error
	}{
		"no columns":               {func(l []api.Column) []api.Column { return nil }, api.ErrShape},
		"one less":                 {func(l []api.Column) []api.Column { return l[:2] }, api.ErrShape},
		"one more":                 {func(l []api.Column) []api.Column { return append(l, l[2]) }, api.ErrShape},
		"in another order":         {func(l []api.Column) []api.Column { l[0], l[1] = l[1], l[0]; return l }, api.ErrShape},
		"another ID":               {func(l []api.Column) []api.Column { l[2].ID = 9; return l }, api.ErrShape},
		"a value less":             {func(l []api.Column) []api.Column { l[0].Values = nil; return l }, api.ErrShape},
		"a level less":             {func(l []api.Column) []api.Column { l[1].Def = l[1].Def[:2]; return l }, api.ErrShape},
		"a level that is none":     {func(l []api.Column) []api.Column { l[1].Rep[1] = 2; return l }, api.ErrShape},
		"a level below 0":          {func(l []api.Column) []api.Column { l[1].Rep[1] = -1; return l }, api.ErrShape},
		"another kind":             {kind(1, 1), &api.Fault{At: 1, Err: api.ErrKind}},
		"another kind, and no IDs": {func(l []api.Column) []api.Column { l[2].ID = 0; return kind(1, 1)(l) }, api.ErrShape},
		"another kind of the last": {func(l []api.Column) []api.Column { l[0] = api.Column{ID: 1}; return kind(2, 0)(l) }, &api.Fault{At: 0, Err: api.ErrKind}},
		"records of one leaf":      {func(l []api.Column) []api.Column { l[0] = api.Column{ID: 1}; return l }, api.ErrShape},
		"records of two leaves":    {func(l []api.Column) []api.Column { l[1], l[2] = api.Column{ID: 3}, api.Column{ID: 4}; return l }, api.ErrShape},
		"elements of one leaf":     {func(l []api.Column) []api.Column { l[2].Rep[1] = 0; return l }, api.ErrShape},
		"a list of none goes on":   {func(l []api.Column) []api.Column { l[2].Def[0] = 0; return l }, api.ErrShape},
	} {
		if got, err := auto.Trace(root, c.spoil(right())); !isSame(err, c.err) || len(got) > 0 {
			t.Errorf("%s: %v, %v, not %v", name, got, err, c.err)
		}
	}
	for i, c := range wrongSchemas() {
		for _, l := range [][]api.Column{nil, right()[:1], kind(0, 0)(right())} {
			if got, err := auto.Trace(c.root, l); err != c.err || len(got) > 0 {
				t.Errorf("%d: %v, %v, not %v", i, got, err, c.err)
			}
		}
	}
}

// TestP81ErrorsOfAssemble: columns that have been spoilt, and may be right even so.
func TestP81ErrorsOfAssemble(t *testing.T) {
	r := rand.New(rand.NewSource(811))
	seen := map[bool]int{}
	for range 5000 {
		root, l := anyRecords(r, 7, 4)
		cols := shredded(root, l)
		for i, leaf := range leavesOf(root) {
			if many := len(cols[i].Rep); many > 0 && r.Intn(2) == 0 {
				cols[i].Rep[r.Intn(many)] = r.Intn(leaf.MaxRep + 1)
			}
			if many := len(cols[i].Values); many > 0 && r.Intn(9) == 0 {
				cols[i].Values[r.Intn(many)].Kind = 1 + r.Intn(5)
			}
		}
		records, want := assemble.Assemble(root, cols)
		got, err := auto.Trace(root, cols)
		if met, _ := orders(root, records); !isSame(err, want) || !slices.Equal(got, met) {
			t.Fatalf("%+v: %v: %v, %v, not %v, %v", root, cols, got, err, met, want)
		}
		seen[err == nil]++
	}
	if seen[true] < 1000 || seen[false] < 1000 {
		t.Error(seen)
	}
}

// TestP82EachEntryOnce: as often as there are entries, in all and of each record.
func TestP82EachEntryOnce(t *testing.T) {
	r := rand.New(rand.NewSource(82))
	for range 1000 {
		root, l := anyRecords(r, 20, 6)
		cols := shredded(root, l)
		trace, err := auto.Trace(root, cols)
		if err != nil {
			t.Fatal(err)
		}
		read := make([]int, len(cols))
		records := 0
		for i, k := range trace {
			if k == 0 && cols[0].Rep[read[0]] == 0 {
				holdRead(t, root, cols, read, records)
				records++
			}
			if k < 0 || k >= len(cols) || read[k] == len(cols[k].Rep) {
				t.Fatalf("%+v: %+v: %v: %d", root, l, trace, i)
			}
			read[k]++
		}
		if records != len(l) {
			t.Fatalf("%+v: %+v: %d", root, l, records)
		}
		holdRead(t, root, cols, read, records)
	}
}

// holdRead: the entries of so many records are read, of each leaf.
func holdRead(t *testing.T, root api.Node, cols []api.Column, read []int, records int) {
	t.Helper()
	for i, leaf := range leavesOf(root) {
		part, err := shred.Part(leaf, cols[i], 0, records)
		if err != nil || len(part.Rep) != read[i] {
			t.Fatalf("%+v: leaf %d: %d read of %d, %v", root, i, read[i], len(part.Rep), err)
		}
	}
}

// TestP82ByTheMachine: what Build tells is what Trace goes by.
func TestP82ByTheMachine(t *testing.T) {
	r := rand.New(rand.NewSource(821))
	for range 1000 {
		root, l := anyRecords(r, 20, 6)
		cols := shredded(root, l)
		m, err := auto.Build(root)
		trace, err2 := auto.Trace(root, cols)
		if err != nil || err2 != nil {
			t.Fatal(err, err2)
		}
		_, begins := orders(root, l)
		read := make([]int, len(cols))
		state := len(cols)
		for i, k := range trace {
			if state == len(cols) {
				if len(begins) == 0 || begins[0] != i {
					t.Fatalf("%+v: %+v: %v begins at %d", root, l, trace, i)
				}
				state, begins = 0, begins[1:]
			}
			if state != k {
				t.Fatalf("%+v: %+v: %v has %d at %d", root, l, trace, k, i)
			}
			read[k]++
			level := 0
			if read[k] < len(cols[k].Rep) {
				level = cols[k].Rep[read[k]]
			}
			state = m.Next[k][level]
		}
		if state != len(cols) || len(begins) > 0 {
			t.Fatalf("%+v: %+v: %v ends in %d", root, l, trace, state)
		}
	}
}

// TestP82Nexts: the leaf behind, or the first one of a list in which this one is.
func TestP82Nexts(t *testing.T) {
	r := rand.New(rand.NewSource(822))
	for range 500 {
		root := anySchema(r, 1+r.Intn(api.MaxNodes-1))
		m, err := auto.Build(root)
		if err != nil {
			t.Fatal(err)
		}
		leaves := leavesOf(root)
		for k, next := range m.Next {
			firsts := []int{k + 1}
			for _, id := range leaves[k].Path {
				n, _ := schema.Find(root, id)
				in, _ := schema.Under(root, id)
				if n.Rep == api.Repeated {
					firsts = append(firsts, slices.IndexFunc(leaves, func(l schema.Leaf) bool { return l.ID == in[0] }))
				}
			}
			for r, to := range next {
				if !slices.Contains(firsts, to) || r == 0 && to != k+1 {
					t.Fatalf("%+v: %d at %d goes on with %d", root, k, r, to)
				}
			}
		}
	}
}

func TestP4Traces(t *testing.T) {
	r := rand.New(rand.NewSource(41))
	all := func(root api.Node, l []api.Column) string {
		s := fmt.Sprint(root, root.Sub[:cap(root.Sub)], l[:cap(l)])
		for _, c := range l {
			s += fmt.Sprint(c.Rep[:cap(c.Rep)], c.Def[:cap(c.Def)], c.Values[:cap(c.Values)])
		}
		return s
	}
	for range 300 {
		root, records := anyRecords(r, 20, 5)
		root.Sub = append(slices.Clone(root.Sub), api.Node{ID: -1})[:len(root.Sub)]
		var l []api.Column
		for _, c := range shredded(root, records) {
			// What lies behind is to be neither read (as one more level) nor written.
			c.Rep = append(slices.Clone(c.Rep), 1, 77)[:len(c.Rep)]
			c.Def = append(slices.Clone(c.Def), 1, 78)[:len(c.Def)]
			c.Values = append(slices.Clone(c.Values), api.Value{Kind: 79})[:len(c.Values)]
			l = append(l, c)
		}
		l = append(l, api.Column{ID: -1})[:len(l)]
		before := all(root, l)
		first, err := auto.Trace(root, l)
		second, err2 := auto.Trace(root, l)
		want, _ := orders(root, records)
		if err != nil || err2 != nil || !slices.Equal(first, want) || !slices.Equal(second, want) || all(root, l) != before {
			t.Fatalf("%v, %v; %s is now %s", err, err2, before, all(root, l))
		}
		if !areApart([][]int{first[:cap(first)], second[:cap(second)]}) || all(root, l) != before {
			t.Fatalf("the trace of %s shares memory", before)
		}
	}
}

// TestP1NothingPanics, with lists that are long, and with schemas that seem endless.
func TestP1NothingPanics(t *testing.T) {
	nodes := api.Node{ID: 1, Name: "a", Rep: api.Repeated, Kind: api.Int}
	for range 60 {
		nodes = api.Node{ID: 1, Name: "a", Rep: api.Repeated, Sub: []api.Node{nodes, nodes, nodes}}
	}
	numbers := []int{0, 1, -1, 40, 41, math.MaxInt, math.MinInt}
	levels := make([]int, 1<<20)
	lists := [][]api.Column{nil, {}, {{}}, {{ID: 2}}, {{ID: 1}, {ID: 2}}, {{ID: 2, Rep: []int{0}}}, {{ID: 2, Def: []int{0}}}, {{ID: 2, Values: make([]api.Value, 1)}},
		{{ID: 2, Rep: numbers, Def: numbers}}, {{ID: 2, Rep: levels, Def: levels}}, {{ID: 2, Rep: levels, Def: levels, Values: make([]api.Value, 1<<20)}}, make([]api.Column, 1<<20)}
	for _, s := range []string{"optional group a #1 { repeated int b #2; }", "required int a #1; required int b #2;", "required int b #2;"} {
		for _, root := range []api.Node{schemaOf(s), {}, nodes, rootOf([]api.Node{nodes}), rootOf(nil), rootOf(make([]api.Node, 1)), rootOf(make([]api.Node, 1<<20))} {
			auto.Build(root)
			for _, l := range lists {
				auto.Trace(root, l)
			}
		}
	}
}
