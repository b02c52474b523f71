package assemble_test

import (
	"fmt"
	"math"
	"math/rand"
	"reflect"
	"slices"
	"testing"

	"shredcol/api"
	"shredcol/assemble"
	"shredcol/data"
	"shredcol/schema"
	"shredcol/shred"
)

// Bare errors are held by ==, since those without a place must not be wrapped.

func schemaOf(s string) api.Node {
	root, err := schema.Read(s)
	if err != nil {
		panic(s + ": " + err.Error())
	}
	return root
}

func recordsOf(root api.Node, texts ...string) []api.Datum {
	var l []api.Datum
	for _, s := range texts {
		d, err := data.Read(root, s)
		if err != nil {
			panic(s + ": " + err.Error())
		}
		l = append(l, d)
	}
	return l
}

func leavesOf(root api.Node) []schema.Leaf {
	l, err := schema.Leaves(root)
	if err != nil {
		panic(err)
	}
	return l
}

// shredded by Shred, as many at once as it takes.
func shredded(root api.Node, l []api.Datum) []api.Column {
	var out []api.Column
	leaves := leavesOf(root)
	for _, leaf := range leaves {
		out = append(out, api.Column{ID: leaf.ID})
	}
	for some := range slices.Chunk(l, api.MaxRecords) {
		part, err := shred.Shred(root, some)
		if err != nil {
			panic(err)
		}
		for i, leaf := range leaves {
			out[i], err = shred.Join(leaf, []api.Column{out[i], part[i]})
			if err != nil {
				panic(err)
			}
		}
	}
	return out
}

// told: columns as text, for which a nil list and an empty one are one thing.
func told(l []api.Column) string {
	s := ""
	for _, c := range l {
		s += fmt.Sprintf("%d %v %v", c.ID, c.Rep, c.Def)
		for _, v := range c.Values {
			s += fmt.Sprintf(" %d/%d/%q", v.Kind, v.N, v.S)
		}
		s += "\n"
	}
	return s
}

func isFault(err error, at int, why error) bool {
	f, ok := err.(*api.Fault)
	return ok && f.At == at && f.Err == why
}

// isSame: at below 0 is an error (or none) without a place.
func isSame(err error, at int, want error) bool {
	return at < 0 && err == want || at >= 0 && isFault(err, at, want)
}

// column of a leaf of kind Int, its values 1, 2 and so on.
func column(id, maxDef int, rep, def []int) api.Column {
	c := api.Column{ID: id, Rep: rep, Def: def}
	for _, level := range def {
		if level == maxDef {
			c.Values = append(c.Values, api.Value{Kind: api.Int, N: int64(len(c.Values) + 1)})
		}
	}
	return c
}

// anySchema: right, with nodes of all kinds.
func anySchema(r *rand.Rand, left int) api.Node {
	ids := r.Perm(api.MaxID)
	var nodes func(deep int) []api.Node
	nodes = func(deep int) []api.Node {
		var l []api.Node
		for left > 0 && (len(l) == 0 || r.Intn(3) > 0) {
			left--
			n := api.Node{ID: ids[left] + 1, Name: string(rune('a'+len(l)%26)) + []string{"", "a"}[len(l)/26], Rep: 1 + r.Intn(3), Kind: 1 + r.Intn(5)}
			if left > 0 && deep < api.MaxDeep && r.Intn(3) > 0 {
				n.Kind, n.Sub = api.Group, nodes(deep+1)
			}
			l = append(l, n)
		}
		return l
	}
	return api.Node{Name: "root", Rep: api.Required, Kind: api.Group, Sub: nodes(2)}
}

func anyValue(r *rand.Rand, kind int) api.Value {
	v := api.Value{Kind: kind}
	switch kind {
	case api.Bool:
		v.N = int64(r.Intn(2))
	case api.Int:
		v.N = int64(int32(r.Uint64()))
	case api.Long, api.Double:
		v.N = int64(r.Uint64())
	case api.Bytes:
		b := make([]byte, r.Intn(4))
		r.Read(b)
		v.S = string(b)
	}
	return v
}

// anyDatum that is right for the node.
func anyDatum(r *rand.Rand, n api.Node) api.Datum {
	if n.Rep == api.Optional && r.Intn(3) == 0 {
		return api.Datum{None: true}
	}
	var d api.Datum
	if n.Rep == api.Repeated {
		n.Rep = api.Required
		for range r.Intn(4) {
			d.L = append(d.L, anyDatum(r, n))
		}
		return d
	}
	if n.Kind != api.Group {
		return api.Datum{V: anyValue(r, n.Kind)}
	}
	for _, in := range n.Sub {
		d.F = append(d.F, anyDatum(r, in))
	}
	return d
}

func anyRecords(r *rand.Rand, nodes, records int) (api.Node, []api.Datum) {
	root := anySchema(r, 1+r.Intn(nodes))
	var l []api.Datum
	for range r.Intn(records) {
		l = append(l, anyDatum(r, root))
	}
	return root, l
}

func TestP70Known(t *testing.T) {
	lists := "repeated group a #1 { repeated group b #2 { repeated int c #3; } }"
	for _, c := range []struct {
		schema string
		cols   []api.Column
		want   []string
	}{
		{"required int a #1;", []api.Column{{ID: 1}}, nil},
		{"required int a #1;", []api.Column{column(1, 0, []int{0, 0}, []int{0, 0})}, []string{"{a:1}", "{a:2}"}},
		{"optional int a #9;", []api.Column{column(9, 1, []int{0, 0, 0}, []int{0, 1, 1})}, []string{"{a:null}", "{a:1}", "{a:2}"}},
		{"repeated int a #1;", []api.Column{column(1, 1, []int{0, 0, 0, 1, 1}, []int{0, 1, 1, 1, 1})}, []string{"{a:[]}", "{a:[1]}", "{a:[2,3,4]}"}},
		{"repeated group a #1 { repeated int b #2; }", []api.Column{column(2, 2, []int{0, 2, 1, 1, 0}, []int{2, 2, 1, 2, 0})}, []string{"{a:[{b:[1,2]},{b:[]},{b:[3]}]}", "{a:[]}"}},
		{lists, []api.Column{column(3, 3, []int{0, 3, 2, 2, 1, 1, 2}, []int{3, 3, 2, 3, 1, 2, 3})}, []string{"{a:[{b:[{c:[1,2]},{c:[]},{c:[3]}]},{b:[]},{b:[{c:[]},{c:[4]}]}]}"}},
		{lists, []api.Column{column(3, 3, []int{0, 1, 2, 0, 0, 0}, []int{1, 2, 2, 0, 1, 2})}, []string{"{a:[{b:[]},{b:[{c:[]},{c:[]}]}]}", "{a:[]}", "{a:[{b:[]}]}", "{a:[{b:[{c:[]}]}]}"}},
		{"required group a #1 { repeated group b #2 { required group c #3 { optional group d #4 { required int e #5; } } } }", []api.Column{column(5, 2, []int{0, 0, 1}, []int{0, 1, 2})}, []string{"{a:{b:[]}}", "{a:{b:[{c:{d:null}},{c:{d:{e:1}}}]}}"}},
		{"optional group a #1 { repeated group b #2 { optional int c #3; } repeated int d #4; }",
			[]api.Column{column(3, 3, []int{0, 0, 0, 1}, []int{0, 1, 2, 3}), column(4, 2, []int{0, 0, 0, 1}, []int{0, 1, 2, 2})},
			[]string{"{a:null}", "{a:{b:[],d:[]}}", "{a:{b:[{c:null},{c:1}],d:[1,2]}}"}},
		// Lists of other lengths side by side in one group, and beside it.
		{"repeated group a #1 { repeated int b #2; repeated int c #3; } repeated int d #4;",
			[]api.Column{column(2, 2, []int{0, 2, 2, 1, 0}, []int{2, 2, 2, 1, 1}), column(3, 2, []int{0, 1, 2, 0}, []int{1, 2, 2, 2}), column(4, 1, []int{0, 0, 1}, []int{0, 1, 1})},
			[]string{"{a:[{b:[1,2,3],c:[]},{b:[],c:[1,2]}],d:[]}", "{a:[{b:[],c:[3]}],d:[1,2]}"}},
	} {
		root := schemaOf(c.schema)
		got, err := assemble.Assemble(root, c.cols)
		if want := recordsOf(root, c.want...); fmt.Sprint(got) != fmt.Sprint(want) || err != nil {
			t.Errorf("%s: %s: %v, %v, not %v", c.schema, told(c.cols), got, err, want)
		}
		for _, d := range got {
			if err := data.Check(root, d); err != nil {
				t.Errorf("%s: %v: %v", c.schema, d, err)
			}
		}
	}
}

// document's three leaves: a always there; d and e in a list in a group.
const document = "required int a #1; optional group b #2 { repeated group c #3 { optional int d #4; required int e #5; } }"

// someColumns of three records of the document.
func someColumns() []api.Column {
	return []api.Column{
		column(1, 0, []int{0, 0, 0}, []int{0, 0, 0}),
		column(4, 3, []int{0, 1, 0, 0}, []int{2, 3, 0, 1}),
		column(5, 2, []int{0, 1, 0, 0}, []int{2, 2, 0, 1}),
	}
}

// TestP70NoSuchRecords: each column is right by itself.
func TestP70NoSuchRecords(t *testing.T) {
	root := schemaOf(document)
	want := recordsOf(root, "{a:1,b:{c:[{d:null,e:1},{d:1,e:2}]}}", "{a:2,b:null}", "{a:3,b:{c:[]}}")
	if got, err := assemble.Assemble(root, someColumns()); fmt.Sprint(got) != fmt.Sprint(want) || err != nil {
		t.Fatal(got, err)
	}
	for name, spoil := range map[string]func(l []api.Column){
		"a record less of the first":  func(l []api.Column) { l[0] = column(1, 0, []int{0, 0}, []int{0, 0}) },
		"a record more of the first":  func(l []api.Column) { l[0] = column(1, 0, make([]int, 4), make([]int, 4)) },
		"none of the first":           func(l []api.Column) { l[0] = api.Column{ID: 1} },
		"none of the last":            func(l []api.Column) { l[2] = api.Column{ID: 5} },
		"a record less of the last":   func(l []api.Column) { l[2] = column(5, 2, []int{0, 1, 0}, []int{2, 2, 0}) },
		"a record more of the last":   func(l []api.Column) { l[2] = column(5, 2, []int{0, 1, 0, 0, 0}, []int{2, 2, 0, 1, 1}) },
		"two records of one":          func(l []api.Column) { l[1].Rep[1] = 0 },
		"one record of two":           func(l []api.Column) { l[1].Rep[2] = 1 },
		"no group, and a group":       func(l []api.Column) { l[1].Def[2] = 1 },
		"a group, and none":           func(l []api.Column) { l[2].Def[3] = 0 },
		"an element, and none":        func(l []api.Column) { l[1].Def[3] = 2 },
		"an element less":             func(l []api.Column) { l[2] = column(5, 2, []int{0, 0, 0}, []int{2, 0, 1}) },
		"an element more":             func(l []api.Column) { l[2] = column(5, 2, []int{0, 1, 1, 0, 0}, []int{2, 2, 2, 0, 1}) },
		"a list in no group goes on":  func(l []api.Column) { l[1].Rep[3], l[2].Rep[3], l[0] = 1, 1, column(1, 0, []int{0, 0}, []int{0, 0}) },
		"a list of none goes on":      func(l []api.Column) { l[1], l[2] = endsOn(4, 1), endsOn(5, 1) },
		"a list goes on to no group":  func(l []api.Column) { l[1], l[2] = goesOn(4, 0), goesOn(5, 0) },
		"a list goes on to none":      func(l []api.Column) { l[1], l[2] = goesOn(4, 1), goesOn(5, 1) },
		"one of two goes on to none":  func(l []api.Column) { l[1] = column(4, 3, []int{0, 1, 0, 0}, []int{3, 1, 0, 1}) },
		"the other one goes on so":    func(l []api.Column) { l[2] = column(5, 2, []int{0, 1, 0, 0}, []int{2, 1, 0, 1}) },
		"the last one is open":        func(l []api.Column) { l[1].Rep, l[1].Def = append(l[1].Rep, 1), append(l[1].Def, 1) },
		"elements at unlike records":  func(l []api.Column) { l[2] = column(5, 2, []int{0, 0, 0, 1}, []int{2, 0, 2, 2}) },
		"a group's records exchanged": func(l []api.Column) { l[1].Def[2], l[1].Def[3] = 1, 0 },
	} {
		l := someColumns()
		spoil(l)
		for i, leaf := range leavesOf(root) {
			if _, err := shred.Part(leaf, l[i], 0, 0); err != nil {
				t.Errorf("%s: column %d is wrong by itself", name, i)
			}
		}
		if got, err := assemble.Assemble(root, l); err != api.ErrShape || len(got) > 0 {
			t.Errorf("%s: %v, %v", name, got, err)
		}
	}
	// A list that goes on within a list of none, and the inner one on behind an outer one of none.
	lists := schemaOf("repeated group a #1 { repeated int b #2; }")
	for _, c := range [][2][]int{{{0, 2}, {1, 2}}, {{0, 2}, {0, 2}}, {{0, 1}, {0, 2}}, {{0, 1}, {2, 0}}, {{0, 2}, {2, 1}}, {{0, 2}, {2, 0}}, {{0, 1, 2}, {2, 1, 2}}} {
		if got, err := assemble.Assemble(lists, []api.Column{column(2, 2, c[0], c[1])}); err != api.ErrShape || len(got) > 0 {
			t.Errorf("%v: %v, %v", c, got, err)
		}
	}
}

// endsOn: the third record's entry has this Def, and a further one goes on with its list.
func endsOn(id, def int) api.Column {
	maxDef := map[int]int{4: 3, 5: 2}[id]
	return column(id, maxDef, []int{0, 0, 0, 1}, []int{0, 0, def, maxDef})
}

// goesOn: the first record's list has an element, and goes on with this Def.
func goesOn(id, def int) api.Column {
	maxDef := map[int]int{4: 3, 5: 2}[id]
	return column(id, maxDef, []int{0, 1, 0, 0}, []int{maxDef, def, 0, 0})
}

func TestP70Errors(t *testing.T) {
	root := schemaOf(document)
	twice, wide := root, root
	twice.Sub = []api.Node{root.Sub[0], root.Sub[0]}
	wide.Sub = slices.Repeat(root.Sub, 20)
	kind := func(i, at int) func([]api.Column) []api.Column {
		return func(l []api.Column) []api.Column { l[i].Values[at].Kind = api.Long; return l }
	}
	shape := func(i int) func([]api.Column) []api.Column {
		return func(l []api.Column) []api.Column { l[i].Def = append(l[i].Def, 0); return l }
	}
	none := func(l []api.Column) []api.Column { l[0] = api.Column{ID: 1}; return l }
	long := func(l []api.Column) []api.Column {
		l[0] = column(1, 0, make([]int, 20001), make([]int, 20001))
		return l
	}
	swap := func(l []api.Column) []api.Column { l[1], l[2] = l[2], l[1]; return l }
	less := func(l []api.Column) []api.Column { return l[:2] }
	for i, c := range []struct {
		root api.Node
		how  []func([]api.Column) []api.Column
		at   int // -1: bare
		err  error
	}{
		{root, nil, -1, nil},
		{api.Node{}, nil, -1, api.ErrShape},
		{twice, []func([]api.Column) []api.Column{less}, -1, api.ErrName},
		{twice, []func([]api.Column) []api.Column{kind(0, 1)}, -1, api.ErrName},
		{wide, []func([]api.Column) []api.Column{swap}, -1, api.ErrBound},
		{root, []func([]api.Column) []api.Column{less}, -1, api.ErrShape},
		{root, []func([]api.Column) []api.Column{kind(0, 1), less}, -1, api.ErrShape},
		{root, []func([]api.Column) []api.Column{swap}, -1, api.ErrShape},
		{root, []func([]api.Column) []api.Column{kind(0, 1), swap}, -1, api.ErrShape},
		{root, []func([]api.Column) []api.Column{func(l []api.Column) []api.Column { return l[1:] }}, -1, api.ErrShape},
		{root, []func([]api.Column) []api.Column{func(l []api.Column) []api.Column { return nil }}, -1, api.ErrShape},
		{root, []func([]api.Column) []api.Column{func(l []api.Column) []api.Column { return append(l, l[2]) }}, -1, api.ErrShape},
		{root, []func([]api.Column) []api.Column{kind(0, 1), func(l []api.Column) []api.Column { return append(l, api.Column{ID: 6}) }}, -1, api.ErrShape},
		{root, []func([]api.Column) []api.Column{kind(0, 1), func(l []api.Column) []api.Column { l[2].ID = 6; return l }}, -1, api.ErrShape},
		{root, []func([]api.Column) []api.Column{kind(0, 1), func(l []api.Column) []api.Column { l[2].ID = 4; return l }}, -1, api.ErrShape},
		{root, []func([]api.Column) []api.Column{kind(0, 0)}, 0, api.ErrKind},
		{root, []func([]api.Column) []api.Column{kind(0, 2)}, 2, api.ErrKind},
		{root, []func([]api.Column) []api.Column{kind(2, 1)}, 1, api.ErrKind},
		{root, []func([]api.Column) []api.Column{kind(2, 1), kind(0, 2)}, 2, api.ErrKind},
		{root, []func([]api.Column) []api.Column{kind(0, 1), shape(0)}, -1, api.ErrShape},
		{root, []func([]api.Column) []api.Column{kind(0, 1), shape(1)}, 1, api.ErrKind},
		{root, []func([]api.Column) []api.Column{kind(2, 1), shape(1)}, -1, api.ErrShape},
		{root, []func([]api.Column) []api.Column{none}, -1, api.ErrShape},
		{root, []func([]api.Column) []api.Column{none, kind(2, 1)}, 1, api.ErrKind},
		{root, []func([]api.Column) []api.Column{long}, -1, api.ErrShape},
		{root, []func([]api.Column) []api.Column{long, kind(2, 1)}, 1, api.ErrKind},
		{root, []func([]api.Column) []api.Column{long, kind(0, 20000)}, 20000, api.ErrKind},
	} {
		l := someColumns()
		for _, how := range c.how {
			l = how(l)
		}
		got, err := assemble.Assemble(c.root, l)
		if !isSame(err, c.at, c.err) || err != nil && len(got) > 0 {
			t.Errorf("%d: %v, %v, not %d: %v", i, got, err, c.at, c.err)
		}
	}
}

// TestP70ManyRecords: more than MaxRecords, as many as a column has room for.
func TestP70ManyRecords(t *testing.T) {
	root := schemaOf("required int a #1; optional int b #2;")
	for _, many := range []int{100, 101, 19999, 20000, 20001, 40000} {
		levels := make([]int, many)
		got, err := assemble.Assemble(root, []api.Column{column(1, 0, levels, levels), column(2, 1, levels, levels)})
		if many > 20000 {
			if err != api.ErrShape || len(got) > 0 {
				t.Errorf("%d: %d records, %v", many, len(got), err)
			}
			continue
		}
		if err != nil || len(got) != many {
			t.Fatalf("%d: %d records, %v", many, len(got), err)
		}
		for i, d := range got {
			want := api.Datum{F: []api.Datum{{V: api.Value{Kind: api.Int, N: int64(i + 1)}}, {None: true}}}
			if !reflect.DeepEqual(d, want) {
				t.Fatalf("%d: %v, not %v", i, d, want)
			}
		}
	}
}

// listAtEnd: the levels of a list of so many elements, behind so many records with a list of one.
func listAtEnd(ahead, elements int) ([]int, []int) {
	rep := slices.Concat(make([]int, ahead+1), slices.Repeat([]int{1}, elements-1))
	return rep, slices.Repeat([]int{1}, ahead+elements)
}

// TestP70ManyEntries: of fewer records, and of one column alone.
func TestP70ManyEntries(t *testing.T) {
	root := schemaOf("required int a #1; repeated int b #2;")
	for _, c := range [][2]int{{19960, 40}, {19961, 40}, {19999, 1}, {20000, 1}} {
		levels := make([]int, c[0]+1)
		rep, def := listAtEnd(c[0], c[1])
		got, err := assemble.Assemble(root, []api.Column{column(1, 0, levels, levels), column(2, 1, rep, def)})
		if len(rep) > 20000 {
			if err != api.ErrShape || len(got) > 0 {
				t.Errorf("%v: %d records, %v", c, len(got), err)
			}
			continue
		}
		if err != nil || len(got) != c[0]+1 || len(got[c[0]].F[1].L) != c[1] {
			t.Errorf("%v: %d records, %v", c, len(got), err)
		}
	}
}

// TestP70LongLists: MaxList elements, and one more, of an outer and of an inner list.
func TestP70LongLists(t *testing.T) {
	flat := schemaOf("repeated int a #1;")
	nested := schemaOf("repeated group a #1 { repeated group b #2 { optional int c #3; } }")
	for elements := 38; elements < 43; elements++ {
		for ahead := range 2 {
			rep, def := listAtEnd(ahead, elements)
			inner := slices.Clone(rep)
			for i, level := range rep {
				inner[i] = level * 2
			}
			for i, c := range []struct {
				root api.Node
				c    api.Column
				len  func(l []api.Datum) int
			}{
				{flat, column(1, 1, rep, def), func(l []api.Datum) int { return len(l[ahead].F[0].L) }},
				{nested, column(3, 3, rep, def), func(l []api.Datum) int { return len(l[ahead].F[0].L) }},
				{nested, column(3, 3, inner, slices.Repeat([]int{2}, len(def))), func(l []api.Datum) int { return len(l[ahead].F[0].L[0].F[0].L) }},
				{nested, column(3, 3, inner, slices.Repeat([]int{3}, len(def))), func(l []api.Datum) int { return len(l[ahead].F[0].L[0].F[0].L) }},
			} {
				got, err := assemble.Assemble(c.root, []api.Column{c.c})
				if elements > 40 && (err != api.ErrShape || len(got) > 0) {
					t.Errorf("%d, %d: %d records, %v", i, elements, len(got), err)
				}
				if elements <= 40 && (err != nil || len(got) != ahead+1 || c.len(got) != elements) {
					t.Errorf("%d, %d: %d records, %v", i, elements, len(got), err)
				}
			}
		}
	}
	// An inner list of 40 in each of 40: 1600 entries, and none too many.
	rep := slices.Repeat(append([]int{1}, slices.Repeat([]int{2}, 39)...), 40)
	rep[0] = 0
	got, err := assemble.Assemble(nested, []api.Column{column(3, 3, rep, slices.Repeat([]int{3}, 1600))})
	if err != nil || len(got) != 1 || len(got[0].F[0].L) != 40 || len(got[0].F[0].L[39].F[0].L) != 40 {
		t.Error(len(got), err)
	}
}

func TestP71Known(t *testing.T) {
	root := schemaOf(document)
	l := someColumns()
	for _, c := range []struct {
		ids  []int
		cols []api.Column
		want []string
	}{
		{[]int{1}, l[:1], []string{"{a:1}", "{a:2}", "{a:3}"}},
		{[]int{5}, l[2:], []string{"{b:{c:[{e:1},{e:2}]}}", "{b:null}", "{b:{c:[]}}"}},
		{[]int{4}, l[1:2], []string{"{b:{c:[{d:null},{d:1}]}}", "{b:null}", "{b:{c:[]}}"}},
		{[]int{5, 4}, l[1:], []string{"{b:{c:[{d:null,e:1},{d:1,e:2}]}}", "{b:null}", "{b:{c:[]}}"}},
		{[]int{3}, l[1:], []string{"{b:{c:[{d:null,e:1},{d:1,e:2}]}}", "{b:null}", "{b:{c:[]}}"}},
		{[]int{5, 1, 5}, []api.Column{l[0], l[2]}, []string{"{a:1,b:{c:[{e:1},{e:2}]}}", "{a:2,b:null}", "{a:3,b:{c:[]}}"}},
		{[]int{0}, l, []string{"{a:1,b:{c:[{d:null,e:1},{d:1,e:2}]}}", "{a:2,b:null}", "{a:3,b:{c:[]}}"}},
		{[]int{2, 1}, l, []string{"{a:1,b:{c:[{d:null,e:1},{d:1,e:2}]}}", "{a:2,b:null}", "{a:3,b:{c:[]}}"}},
		{[]int{1}, []api.Column{{ID: 1}}, nil},
	} {
		part, _ := schema.Project(root, c.ids)
		got, err := assemble.Records(root, c.ids, c.cols)
		if want := recordsOf(part, c.want...); fmt.Sprint(got) != fmt.Sprint(want) || err != nil {
			t.Errorf("%v: %v, %v, not %v", c.ids, got, err, want)
		}
	}
}

func TestP71Errors(t *testing.T) {
	root := schemaOf(document)
	twice, wide := root, root
	twice.Sub = []api.Node{root.Sub[0], root.Sub[0]}
	wide.Sub = slices.Repeat(root.Sub, 20)
	l := someColumns()
	kind := someColumns()
	kind[2].Values[1] = api.Value{Kind: api.Int, N: 1 << 31}
	open := []api.Column{l[0], column(5, 2, []int{0, 0, 0, 1}, []int{0, 0, 1, 1})}
	for i, c := range []struct {
		root api.Node
		ids  []int
		cols []api.Column
		at   int // -1: bare
		err  error
	}{
		{api.Node{}, []int{1}, l, -1, api.ErrShape},
		{twice, []int{9}, l, -1, api.ErrName},
		{wide, nil, l, -1, api.ErrBound},
		{root, []int{9}, l, -1, api.ErrNone},
		{root, []int{1, -1}, kind, -1, api.ErrNone},
		{root, []int{1, math.MaxInt}, nil, -1, api.ErrNone},
		{root, nil, nil, -1, api.ErrShape},
		{root, []int{}, l, -1, api.ErrShape},
		// Those of the projection's leaves, and no others.
		{root, []int{1}, nil, -1, api.ErrShape},
		{root, []int{1}, l, -1, api.ErrShape},
		{root, []int{1}, l[:2], -1, api.ErrShape},
		{root, []int{1}, l[1:2], -1, api.ErrShape},
		{root, []int{5, 1}, []api.Column{l[2], l[0]}, -1, api.ErrShape},
		{root, []int{5}, kind, -1, api.ErrShape},
		{root, []int{5}, kind[2:], 1, api.ErrKind},
		{root, []int{5, 4}, kind[1:], 1, api.ErrKind},
		{root, []int{1, 5}, []api.Column{{ID: 1}, l[2]}, -1, api.ErrShape},
		{root, []int{1, 5}, []api.Column{{ID: 1}, kind[2]}, 1, api.ErrKind},
		{root, []int{1, 5}, open, -1, api.ErrShape},
		{root, []int{5}, open[1:], -1, api.ErrShape},
	} {
		got, err := assemble.Records(c.root, c.ids, c.cols)
		if !isSame(err, c.at, c.err) || len(got) > 0 {
			t.Errorf("%d: %v, %v, not %d: %v", i, got, err, c.at, c.err)
		}
	}
}

func TestP72RecordsComeBack(t *testing.T) {
	r := rand.New(rand.NewSource(72))
	for range 2000 {
		root, l := anyRecords(r, 20, 6)
		cols := shredded(root, l)
		got, err := assemble.Assemble(root, cols)
		if fmt.Sprint(got) != fmt.Sprint(l) || err != nil {
			t.Fatalf("%+v of %+v: %v", l, root, err)
		}
		for i := range got {
			if err := data.Check(root, got[i]); err != nil {
				t.Fatalf("%+v of %+v: %v", got[i], root, err)
			}
		}
		if again := shredded(root, got); told(again) != told(cols) {
			t.Fatalf("%s, not %s", told(again), told(cols))
		}
	}
}

func TestP72ManyRecordsComeBack(t *testing.T) {
	r := rand.New(rand.NewSource(721))
	for range 10 {
		root, l := anyRecords(r, 6, 900)
		cols := shredded(root, l)
		got, err := assemble.Assemble(root, cols)
		if fmt.Sprint(got) != fmt.Sprint(l) || err != nil {
			t.Fatalf("%d of %+v: %d, %v", len(l), root, len(got), err)
		}
	}
}

// someIDs of nodes, the root aside.
func someIDs(r *rand.Rand, root api.Node) []int {
	var all []int
	var find func(n api.Node)
	find = func(n api.Node) {
		for _, in := range n.Sub {
			all = append(all, in.ID)
			find(in)
		}
	}
	find(root)
	var ids []int
	for range 1 + r.Intn(4) {
		ids = append(ids, all[r.Intn(len(all))])
	}
	return ids
}

func TestP72Projections(t *testing.T) {
	r := rand.New(rand.NewSource(722))
	fewer := 0
	for range 2000 {
		root, l := anyRecords(r, 20, 6)
		ids := someIDs(r, root)
		var want []api.Datum
		for _, d := range l {
			part, err := data.Cut(root, ids, d)
			if err != nil {
				t.Fatal(err)
			}
			want = append(want, part)
		}
		part, err := schema.Project(root, ids)
		if err != nil {
			t.Fatal(err)
		}
		var cols []api.Column
		leaves := leavesOf(part)
		for _, c := range shredded(root, l) {
			if slices.ContainsFunc(leaves, func(leaf schema.Leaf) bool { return leaf.ID == c.ID }) {
				cols = append(cols, c)
			} else {
				fewer++
			}
		}
		got, err := assemble.Records(root, ids, cols)
		if fmt.Sprint(got) != fmt.Sprint(want) || err != nil {
			t.Fatalf("%+v of %+v to %v: %v, %v, not %v", l, root, ids, got, err, want)
		}
		if again := shredded(part, got); told(again) != told(cols) {
			t.Fatalf("%s, not %s", told(again), told(cols))
		}
	}
	if fewer < 2000 {
		t.Error(fewer)
	}
}

// listsIn an answer, all of them, as far as their memory goes.
func listsIn(l []api.Datum) [][]api.Datum {
	out := [][]api.Datum{l[:cap(l)]}
	for _, d := range l {
		out = append(out, listsIn(d.L)...)
		out = append(out, listsIn(d.F)...)
	}
	return out
}

// areApart: what is written into one list is not to be seen in another one.
func areApart(lists [][]api.Datum) bool {
	number := int64(0)
	for _, l := range lists {
		for i := range l {
			number++
			l[i] = api.Datum{V: api.Value{N: number}}
		}
	}
	number = 0
	for _, l := range lists {
		for i := range l {
			number++
			if l[i].V.N != number {
				return false
			}
		}
	}
	return true
}

func TestP4OnlyRead(t *testing.T) {
	r := rand.New(rand.NewSource(4))
	behind := func(c api.Column) api.Column {
		c.Rep = append(slices.Clone(c.Rep), 0, 77)[:len(c.Rep)]
		c.Def = append(slices.Clone(c.Def), 0, 78)[:len(c.Def)]
		c.Values = append(slices.Clone(c.Values), api.Value{Kind: 79})[:len(c.Values)]
		return c
	}
	all := func(root api.Node, ids []int, l []api.Column) string {
		s := fmt.Sprint(root, root.Sub[:cap(root.Sub)], ids[:cap(ids)], l[:cap(l)])
		for _, c := range l {
			s += fmt.Sprint(c.Rep[:cap(c.Rep)], c.Def[:cap(c.Def)], c.Values[:cap(c.Values)])
		}
		return s
	}
	for range 400 {
		root, records := anyRecords(r, 20, 5)
		root.Sub = append(slices.Clone(root.Sub), api.Node{ID: -1})[:len(root.Sub)]
		ids := append([]int{0}, -7)[:1]
		var l []api.Column
		for _, c := range shredded(root, records) {
			l = append(l, behind(c))
		}
		l = append(l, api.Column{ID: -1})[:len(l)]
		before := all(root, ids, l)
		first, err := assemble.Assemble(root, l)
		second, err2 := assemble.Records(root, ids, l)
		if err != nil || err2 != nil || all(root, ids, l) != before {
			t.Fatalf("%v, %v; %s is now %s", err, err2, before, all(root, ids, l))
		}
		if !areApart(append(listsIn(first), listsIn(second)...)) {
			t.Fatalf("two lists of the records of %s share memory", before)
		}
		third, err := assemble.Assemble(root, l)
		if fmt.Sprint(third) != fmt.Sprint(records) || err != nil {
			t.Fatalf("%v, %v, not %v", third, err, records)
		}
		// Nothing of what was handed over is kept.
		for _, c := range l {
			clear(c.Rep)
			clear(c.Def)
			clear(c.Values)
		}
		if fmt.Sprint(third) != fmt.Sprint(records) {
			t.Fatalf("%v, not %v", third, records)
		}
	}
}

// TestP1NothingPanics, with lists that are long, and with schemas that seem endless.
func TestP1NothingPanics(t *testing.T) {
	nodes := api.Node{ID: 1, Name: "a", Rep: api.Required, Kind: api.Int}
	for range 60 {
		nodes = api.Node{ID: 1, Name: "a", Rep: api.Required, Sub: []api.Node{nodes, nodes, nodes}}
	}
	numbers := []int{0, 1, -1, 40, 41, math.MaxInt, math.MinInt}
	long := api.Column{ID: 2, Rep: make([]int, 1<<20), Def: make([]int, 1<<20)}
	lists := [][]api.Column{nil, {}, {{}}, {{ID: 2}}, {{ID: 1}, {ID: 2}}, {{ID: 2, Rep: []int{0}}}, {{ID: 2, Def: []int{0}}}, {{ID: 2, Values: make([]api.Value, 1)}},
		{{ID: 2, Rep: numbers, Def: numbers}}, {long}, {{ID: 2, Rep: long.Rep, Def: long.Def, Values: make([]api.Value, 1<<20)}}, make([]api.Column, 1<<20)}
	for _, s := range []string{"optional group a #1 { repeated int b #2; }", "required int a #1; required int b #2;", "required int b #2;"} {
		for _, root := range []api.Node{schemaOf(s), {}, nodes, {Name: "root", Rep: api.Required}, {Name: "root", Rep: api.Required, Sub: []api.Node{{}}}} {
			for _, l := range lists {
				assemble.Assemble(root, l)
				for _, ids := range [][]int{nil, {}, {2}, numbers, make([]int, 1<<20)} {
					assemble.Records(root, ids, l)
				}
			}
		}
	}
}
