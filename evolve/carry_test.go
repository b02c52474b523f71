package evolve_test

import (
	"fmt"
	"math/rand"
	"reflect"
	"slices"
	"strconv"
	"strings"
	"testing"

	"shredcol/api"
	"shredcol/data"
	"shredcol/evolve"
)

// Bare errors are held by ==, since those without a place must not be wrapped.

func TestP133Known(t *testing.T) {
	for _, c := range []struct{ from, to, record, want string }{
		{"required int a #1;", "required int a #1;", "{a:5}", "{a:5}"},
		{"required int a #1;", "required int b #1;", "{a:5}", "{b:5}"},
		{"required int a #1; required int b #2;", "required int b #2; required int a #1;", "{a:5,b:6}", "{b:6,a:5}"},
		{"required int a #1; required int b #2;", "required int a #2; required int b #1;", "{a:5,b:6}", "{a:6,b:5}"},
		{"required int a #1; required int b #2;", "required int b #2;", "{a:5,b:6}", "{b:6}"},
		{"required int a #1;", "required bytes b #2;", "{a:5}", `{b:""}`},
		{"required int a #1;", "required long a #1;", "{a:-2147483648}", "{a:-2147483648}"},
		{"optional int a #1;", "optional long a #1;", "{a:2147483647}", "{a:2147483647}"},
		{"optional int a #1;", "optional long a #1;", "{a:null}", "{a:null}"},
		{"repeated int a #1;", "repeated long a #1;", "{a:[0,-1,5]}", "{a:[0,-1,5]}"},
		{"repeated int a #1;", "repeated long a #1;", "{a:[]}", "{a:[]}"},
		{"required int a #1;", "optional int a #1;", "{a:0}", "{a:0}"},
		{"required int a #1;", "optional long a #1;", "{a:7}", "{a:7}"},
		{"required bytes a #1;", "optional bytes a #1;", `{a:""}`, `{a:""}`},
		{"required double a #1; required bool b #2; optional bytes c #3;", "optional bool b #2; optional bytes c #3; required double a #1;", `{a:x8000000000000000,b:true,c:"x\00"}`, `{b:true,c:"x\00",a:x8000000000000000}`},
		{"required int a #1;", "required bool b #2; required int c #3; required long d #4; required bytes e #5; required double f #6; required int a #1;", "{a:5}", `{b:false,c:0,d:0,e:"",f:x0000000000000000,a:5}`},
		{"required int a #1;", "optional bool b #2; optional int c #3; optional long d #4; optional bytes e #5; optional double f #6;", "{a:5}", "{b:null,c:null,d:null,e:null,f:null}"},
		{"required int a #1;", "repeated bool b #2; repeated int c #3; repeated long d #4; repeated bytes e #5; repeated double f #6;", "{a:5}", "{b:[],c:[],d:[],e:[],f:[]}"},
		{"required int a #1;", "required group b #2 { required group c #3 { required int d #4; optional int e #5; repeated int f #6; } optional group g #7 { required int h #8; } repeated group i #9 { required int j #10; } }", "{a:5}", "{b:{c:{d:0,e:null,f:[]},g:null,i:[]}}"},
		{"required int a #1;", "optional group b #2 { required int c #3; } repeated group d #4 { required int e #5; }", "{a:5}", "{b:null,d:[]}"},
		{"required group a #1 { required int b #2; }", "optional group a #1 { required int b #2; }", "{a:{b:5}}", "{a:{b:5}}"},
		{"required group a #1 { required int b #2; }", "optional group a #1 { required int c #3; }", "{a:{b:5}}", "{a:{c:0}}"},
		{"optional group a #1 { required int b #2; }", "optional group a #1 { required int c #3; required long b #2; }", "{a:{b:5}}", "{a:{c:0,b:5}}"},
		{"optional group a #1 { required int b #2; }", "optional group a #1 { required int c #3; required long b #2; }", "{a:null}", "{a:null}"},
		{"repeated group a #1 { required int b #2; }", "repeated group a #1 { required int c #3; optional int b #2; repeated bytes d #4; optional bool e #5; }", "{a:[{b:5},{b:6}]}", "{a:[{c:0,b:5,d:[],e:null},{c:0,b:6,d:[],e:null}]}"},
		{"repeated group a #1 { required int b #2; }", "repeated group a #1 { required int c #3; }", "{a:[{b:5},{b:6},{b:7}]}", "{a:[{c:0},{c:0},{c:0}]}"},
		{"repeated group a #1 { required int b #2; }", "repeated group a #1 { required int c #3; }", "{a:[]}", "{a:[]}"},
		{"repeated group a #1 { repeated group b #2 { optional int c #3; required bool d #4; } optional int e #5; }", "repeated group a #1 { optional long e #5; repeated group b #2 { required bytes f #6; optional long c #3; } }", "{a:[{b:[{c:1,d:true},{c:null,d:false}],e:2},{b:[],e:null}]}", `{a:[{e:2,b:[{f:"",c:1},{f:"",c:null}]},{e:null,b:[]}]}`},
	} {
		from, to := schemaOf(c.from), schemaOf(c.to)
		d, err := evolve.Carry(from, to, recordOf(from, c.record))
		if s, bad := data.Text(to, d); s != c.want || err != nil || bad != nil {
			t.Errorf("%s of %s to %s: %s, %v, %v", c.record, c.from, c.to, s, err, bad)
		}
	}
}

// TestP133Plain: fields that are not named are zero.
func TestP133Plain(t *testing.T) {
	from := schemaOf("required int a #1; repeated bytes b #2;")
	to := schemaOf("optional long a #1; repeated bytes b #2; required double c #3; optional group d #4 { required int e #5; } required group f #6 { repeated int g #7; }")
	d, err := evolve.Carry(from, to, fields(value(api.Int, -7), list(api.Datum{V: api.Value{Kind: api.Bytes, S: "x"}})))
	want := fields(value(api.Long, -7), list(api.Datum{V: api.Value{Kind: api.Bytes, S: "x"}}), value(api.Double, 0), none(), fields(list()))
	if fmt.Sprintf("%+v", d) != fmt.Sprintf("%+v", want) || err != nil {
		t.Errorf("%+v, %v, not %+v", d, err, want)
	}
}

func TestP133Errors(t *testing.T) {
	from := schemaOf("required int a #1; repeated group b #2 { required bytes c #3; }")
	right := recordOf(from, `{a:5,b:[{c:"x"}]}`)
	other := schemaOf("optional int a #1;")
	unlike := schemaOf("required bool a #1;")
	long := fields(value(api.Int, 5), list(make([]api.Datum, 41)...))
	wide := rootOf()
	for i := range 40 {
		wide.Sub = append(wide.Sub, api.Node{ID: i + 1, Name: string(rune('a' + i%26)), Rep: api.Repeated, Kind: api.Bool})
	}
	named := rootOf(api.Node{ID: 1, Name: "A", Rep: api.Repeated, Kind: api.Bool})
	for i, c := range []struct {
		from, to api.Node
		d        api.Datum
		want     error
	}{
		{from, other, right, nil},
		{from, other, api.Datum{}, api.ErrShape},
		{from, other, none(), api.ErrShape},
		{from, other, long, api.ErrBound},
		{from, other, fields(value(api.Long, 5), list()), api.ErrKind},
		{from, other, fields(value(api.Int, 1<<31), list()), api.ErrKind},
		{from, other, fields(none(), list()), api.ErrShape},
		// What is wrong with the record is told ahead of what is wrong with to.
		{from, api.Node{}, long, api.ErrBound},
		{from, wide, none(), api.ErrShape},
		{from, unlike, none(), api.ErrShape},
		{from, unlike, long, api.ErrBound},
		{api.Node{}, other, right, api.ErrShape},
		{rootOf(), other, api.Datum{}, api.ErrShape},
		{rootOf(), rootOf(), api.Datum{}, api.ErrShape},
		{wide, other, right, api.ErrBound},
		{named, other, right, api.ErrName},
		{named, wide, right, api.ErrName},
		// What is wrong with to is told ahead of what is not Same.
		{from, api.Node{}, right, api.ErrShape},
		{from, rootOf(), right, api.ErrShape},
		{from, wide, right, api.ErrBound},
		{from, named, right, api.ErrName},
		{from, unlike, right, api.ErrKind},
		{from, schemaOf("repeated int a #1;"), right, api.ErrKind},
		{from, schemaOf("required bytes c #3;"), right, api.ErrKind},
		{from, schemaOf("repeated group x #4 { required bytes c #3; }"), right, api.ErrKind},
		{from, schemaOf("required group b #2 { required bytes c #3; }"), right, api.ErrKind},
		{from, schemaOf("required group a #1 { required bytes d #4; }"), right, api.ErrKind},
		{schemaOf("required long a #1;"), schemaOf("required int a #1;"), fields(value(api.Long, 5)), api.ErrKind},
		{schemaOf("optional int a #1;"), schemaOf("required int a #1;"), fields(value(api.Int, 5)), api.ErrKind},
	} {
		if d, err := evolve.Carry(c.from, c.to, c.d); err != c.want || err != nil && !isNothing(d) {
			t.Errorf("%d: %+v, %v, not %v", i, d, err, c.want)
		}
	}
}

// way of a record, from a schema on.
type way struct {
	edits    []string
	begin    int // how many edits the first schema has
	from, to api.Node
	d        api.Datum
	cameIn   func(id int) bool
	loosened bool // something that came in on the way
}

// anyWay between schemas that have nodes.
func anyWay(r *rand.Rand) way {
	for {
		w := way{edits: anyEdits(r, 2+r.Intn(12))}
		w.begin = r.Intn(len(w.edits))
		from, _, _ := replayed(w.edits[:w.begin])
		to, _, _ := replayed(w.edits)
		if len(from.l) == 0 || len(to.l) == 0 {
			continue
		}
		w.from, w.to = from.root(), to.root()
		w.d = anyDatum(r, w.from, 0)
		w.cameIn = func(id int) bool { return id >= from.next }
		for _, line := range w.edits[w.begin:] {
			if id, is := strings.CutPrefix(line, "loosen "); is {
				w.loosened = w.loosened || w.cameIn(number(id))
			}
		}
		return w
	}
}

// TestP133ByTheRule: the record is changed edit by edit.
func TestP133ByTheRule(t *testing.T) {
	r := rand.New(rand.NewSource(133))
	for range 4000 {
		w := anyWay(r)
		want := w.d
		for i := w.begin; i < len(w.edits); i++ {
			m, _, _ := replayed(w.edits[:i])
			want = carried(m, w.edits[i], want, w.cameIn)
		}
		d, err := evolve.Carry(w.from, w.to, w.d)
		if fmt.Sprint(d) != fmt.Sprint(want) || err != nil {
			t.Fatalf("%+v by %q from %d on: %+v, %v, not %+v", w.d, w.edits, w.begin, d, err, want)
		}
	}
}

func TestP134ToItself(t *testing.T) {
	r := rand.New(rand.NewSource(1340))
	for range 1500 {
		w := anyWay(r)
		if d, err := evolve.Carry(w.from, w.from, w.d); !reflect.DeepEqual(d, w.d) || err != nil {
			t.Fatalf("%+v of %s: %+v, %v", w.d, lineOf(w.from), d, err)
		}
	}
}

func TestP134IsRight(t *testing.T) {
	r := rand.New(rand.NewSource(1341))
	for range 4000 {
		w := anyWay(r)
		d, err := evolve.Carry(w.from, w.to, w.d)
		if err != nil || data.Check(w.to, d) != nil {
			t.Fatalf("%+v by %q from %d on: %+v, %v", w.d, w.edits, w.begin, d, err)
		}
	}
}

// stops of a way: all schemas from the first to the last; none where one of them has no
// nodes, and so no records.
func (w way) stops() []api.Node {
	var l []api.Node
	for i := w.begin; i <= len(w.edits); i++ {
		m, _, _ := replayed(w.edits[:i])
		if len(m.l) == 0 {
			return nil
		}
		l = append(l, m.root())
	}
	return l
}

// by these schemas, one after the other.
func by(stops []api.Node, d api.Datum) (api.Datum, error) {
	for i := 1; i < len(stops); i++ {
		var err error
		if d, err = evolve.Carry(stops[i-1], stops[i], d); err != nil {
			return d, err
		}
	}
	return d, nil
}

// TestP134OnTheWay: by any schema between, and by all of them.
func TestP134OnTheWay(t *testing.T) {
	r := rand.New(rand.NewSource(1342))
	many := 0
	for range 3000 {
		w := anyWay(r)
		stops := w.stops()
		if w.loosened || len(stops) == 0 {
			continue
		}
		many++
		atOnce, err := evolve.Carry(w.from, w.to, w.d)
		if err != nil {
			t.Fatal(err)
		}
		ways := [][]api.Node{stops}
		for _, between := range stops {
			ways = append(ways, []api.Node{w.from, between, w.to})
		}
		for i, l := range ways {
			if d, err := by(l, w.d); !reflect.DeepEqual(d, atOnce) || err != nil {
				t.Fatalf("%+v by %q from %d on, way %d: %+v, %v, not %+v", w.d, w.edits, w.begin, i, d, err, atOnce)
			}
		}
	}
	if many < 500 {
		t.Error(many)
	}
}

// TestP134Loosened: what came in on the way and is loosened behind it is the one thing
// that tells whether a record was carried on the way.
func TestP134Loosened(t *testing.T) {
	edits := []string{"add 0 required int a;", "add 0 required int b;", "loosen 2"}
	a, _, _ := evolve.Replay(edits[:1])
	b, _, _ := evolve.Replay(edits[:2])
	c, _, _ := evolve.Replay(edits)
	d := recordOf(a, "{a:5}")
	atOnce, err := evolve.Carry(a, c, d)
	between, bad := evolve.Carry(a, b, d)
	onTheWay, worse := evolve.Carry(b, c, between)
	if !reflect.DeepEqual(atOnce, recordOf(c, "{a:5,b:null}")) || !reflect.DeepEqual(onTheWay, recordOf(c, "{a:5,b:0}")) {
		t.Error(atOnce, onTheWay, err, bad, worse)
	}
}

func TestP1NothingPanics(t *testing.T) {
	endless := api.Datum{}
	for range 60 {
		l := slices.Repeat([]api.Datum{endless}, 3)
		endless = api.Datum{None: true, V: api.Value{Kind: 9}, L: l, F: l}
	}
	nodes := api.Node{ID: 1, Name: "a", Rep: api.Required, Kind: api.Int}
	for range 60 {
		nodes = api.Node{ID: 1, Name: "a", Rep: api.Required, Sub: []api.Node{nodes, nodes, nodes}}
	}
	roots := []api.Node{{}, schemaOf("required int a #1; optional group b #2 { repeated int c #3; }"), nodes, rootOf(), rootOf(nodes), rootOf(api.Node{}), {Sub: make([]api.Node, 1<<20)}, rootOf(make([]api.Node, 1<<20)...)}
	for _, a := range roots {
		for _, b := range roots {
			evolve.Same(a, b)
			for _, d := range []api.Datum{{}, endless, list(endless), fields(endless), fields(endless, endless), fields(value(api.Int, 1), none()), {F: make([]api.Datum, 1<<20)}} {
				evolve.Carry(a, b, d)
			}
		}
	}
	r := rand.New(rand.NewSource(1))
	for range 3000 {
		edits := make([]string, 1+r.Intn(3))
		for i := range edits {
			b := make([]byte, r.Intn(40))
			for i := range b {
				b[i] = "add 0 drop1;{}#\n\xff"[r.Intn(17)]
			}
			edits[i] = string(b)
		}
		evolve.Replay(edits)
		for _, word := range []string{"add", "drop", "rename", "move", "widen", "loosen"} {
			evolve.Replay([]string{"add 0 required int a;", word + " " + strconv.Itoa(r.Intn(3)) + " " + edits[0]})
		}
	}
}

// TestP1AsManyAsCanBe: lists in lists, all full, one of them shared by all.
func TestP1AsManyAsCanBe(t *testing.T) {
	from := schemaOf("repeated group a #1 { repeated group a #2 { repeated group a #3 { repeated int a #5; } } }")
	to := schemaOf("repeated group a #1 { repeated group a #2 { repeated group a #3 { repeated long b #5; } } }")
	full := func(kind int) api.Datum {
		d := list(slices.Repeat([]api.Datum{value(kind, 7)}, 40)...)
		for range 3 {
			d = list(slices.Repeat([]api.Datum{fields(d)}, 40)...)
		}
		d.L = d.L[:4]
		return fields(d)
	}
	if d, err := evolve.Carry(from, to, full(api.Int)); err != nil || !reflect.DeepEqual(d, full(api.Long)) {
		t.Error(err)
	}
}

// guarded: the same, with something behind the length of each of its lists.
func guarded(d api.Datum) api.Datum {
	for _, l := range []*[]api.Datum{&d.L, &d.F} {
		var out []api.Datum
		for _, in := range *l {
			out = append(out, guarded(in))
		}
		*l = append(out, value(api.Int, 1234))[:len(out)]
	}
	return d
}

// guardedNode likewise.
func guardedNode(n api.Node) api.Node {
	var out []api.Node
	for _, in := range n.Sub {
		out = append(out, guardedNode(in))
	}
	n.Sub = append(out, api.Node{ID: 1234})[:len(out)]
	return n
}

// seen: all that there is, with what stands behind the lengths.
func seen(d api.Datum) string {
	s := fmt.Sprint(d.None, d.V, len(d.L), len(d.F))
	for _, l := range [][]api.Datum{d.L, d.F} {
		for _, in := range l[:cap(l)] {
			s += "(" + seen(in) + ")"
		}
	}
	return s
}

func seenNode(n api.Node) string {
	s := fmt.Sprint(n.ID, n.Name, n.Rep, n.Kind, len(n.Sub))
	for _, in := range n.Sub[:cap(n.Sub)] {
		s += "(" + seenNode(in) + ")"
	}
	return s
}

// eachDatumList of a record, as far as its memory goes, in the order in which it stood.
func eachDatumList(d api.Datum, take func(l []api.Datum)) {
	for _, l := range [][]api.Datum{d.L, d.F} {
		for _, in := range slices.Clone(l) {
			eachDatumList(in, take)
		}
		take(l[:cap(l)])
	}
}

func TestP4Carry(t *testing.T) {
	r := rand.New(rand.NewSource(40))
	for range 2000 {
		w := anyWay(r)
		from, to, d := guardedNode(w.from), guardedNode(w.to), guarded(w.d)
		before := seenNode(from) + seenNode(to) + seen(d)
		answer, err := evolve.Carry(from, to, d)
		if err != nil || !evolve.Same(from, to) {
			t.Fatal(err)
		}
		number := int64(0)
		eachDatumList(answer, func(l []api.Datum) {
			for i := range l {
				number++
				l[i].V.N = number
			}
		})
		number = 0
		eachDatumList(answer, func(l []api.Datum) {
			for i := range l {
				if number++; l[i].V.N != number {
					t.Fatalf("two lists of %+v share memory", answer)
				}
			}
		})
		if seenNode(from)+seenNode(to)+seen(d) != before {
			t.Fatalf("%+v by %q from %d on was changed", w.d, w.edits, w.begin)
		}
	}
}

// TestP4SharedLists: what shares memory in a record does not in what is carried.
func TestP4SharedLists(t *testing.T) {
	from := schemaOf("repeated group a #1 { repeated int b #2; } repeated group c #3 { repeated int d #4; }")
	numbers := []api.Datum{value(api.Int, 1), value(api.Int, 2)}
	groups := list(fields(list(numbers...)), fields(list(numbers...)))
	d, err := evolve.Carry(from, from, fields(groups, groups))
	if err != nil {
		t.Fatal(err)
	}
	d.F[0].L[0].F[0].L[0].V.N = 9
	d.F[0].L[1].F = nil
	want := fields(list(fields(list(value(api.Int, 9), value(api.Int, 2))), api.Datum{}), groups)
	if fmt.Sprint(d) != fmt.Sprint(want) || numbers[0].V.N != 1 {
		t.Errorf("%+v, not %+v", d, want)
	}
}
