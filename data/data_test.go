package data_test

import (
	"fmt"
	"math"
	"math/rand"
	"reflect"
	"slices"
	"testing"

	"shredcol/api"
	"shredcol/data"
	"shredcol/enc"
	"shredcol/schema"
)

// Bare errors are held by ==, since those without a place must not be wrapped.

const smallText = "required int a #1; optional group b #2 { repeated group c #3 { optional bytes d #4; required bool e #5; } required double f #6; } repeated long g #7;"

func schemaOf(s string) api.Node {
	root, err := schema.Read(s)
	if err != nil {
		panic(s + ": " + err.Error())
	}
	return root
}

func small() api.Node { return schemaOf(smallText) }

func whole(n int64) api.Datum { return api.Datum{V: api.Value{Kind: api.Int, N: n}} }

func long(n int64) api.Datum { return api.Datum{V: api.Value{Kind: api.Long, N: n}} }

func truth(n int64) api.Datum { return api.Datum{V: api.Value{Kind: api.Bool, N: n}} }

func double(f float64) api.Datum {
	return api.Datum{V: api.Value{Kind: api.Double, N: int64(math.Float64bits(f))}}
}

func text(s string) api.Datum { return api.Datum{V: api.Value{Kind: api.Bytes, S: s}} }

func list(l ...api.Datum) api.Datum { return api.Datum{L: l} }

func fields(l ...api.Datum) api.Datum { return api.Datum{F: l} }

func none() api.Datum { return api.Datum{None: true} }

// smallOne: a record of small, in which everything is there.
func smallOne() api.Datum {
	return fields(
		whole(7),
		fields(
			list(fields(none(), truth(1)), fields(text("x"), truth(0))),
			double(1.5),
		),
		list(long(-1), long(math.MaxInt64), long(math.MinInt64)),
	)
}

func isNothing(d api.Datum) bool {
	return !d.None && d.V == api.Value{} && len(d.L) == 0 && len(d.F) == 0
}

// anySchema: right, with nodes of all kinds.
func anySchema(r *rand.Rand, left int) api.Node {
	ids := r.Perm(api.MaxID)
	var nodes func(deep int) []api.Node
	nodes = func(deep int) []api.Node {
		var l []api.Node
		for left > 0 && (len(l) == 0 || r.Intn(3) > 0) {
			left--
			n := api.Node{ID: ids[left] + 1, Name: string(rune('a'+len(l)%26)) + []string{"", "a", "null"}[len(l)/26], Rep: 1 + r.Intn(3), Kind: 1 + r.Intn(5)}
			if left > 0 && deep < api.MaxDeep && r.Intn(2) == 0 {
				n.Kind, n.Sub = api.Group, nodes(deep+1)
			}
			l = append(l, n)
		}
		return l
	}
	return api.Node{Name: "root", Rep: api.Required, Kind: api.Group, Sub: nodes(2)}
}

func anyValue(r *rand.Rand, kind int) api.Value {
	v := api.Value{Kind: kind}
	edges := []int64{0, 1, -1, 9, 10, -10, math.MaxInt32, math.MinInt32, math.MaxInt64, math.MinInt64}
	switch kind {
	case api.Bool:
		v.N = int64(r.Intn(2))
	case api.Int:
		v.N = int64(int32(r.Uint64() >> r.Intn(64)))
		if r.Intn(3) == 0 {
			v.N = edges[r.Intn(8)]
		}
	case api.Long, api.Double:
		v.N = int64(r.Uint64() >> r.Intn(64))
		if r.Intn(3) == 0 {
			v.N = edges[r.Intn(10)]
		}
	case api.Bytes:
		b := make([]byte, r.Intn(5))
		if r.Intn(20) == 0 {
			b = make([]byte, api.MaxBytes-r.Intn(2))
		}
		for i := range b {
			b[i] = byte(r.Intn(256))
			if r.Intn(2) == 0 {
				b[i] = "\"\\ ~\x1f\x7f\x00\xff{}[],:a0"[r.Intn(16)]
			}
		}
		v.S = string(b)
	}
	return v
}

// anyDatum that is right for the node; with many elements only where it stands not deep.
func anyDatum(r *rand.Rand, n api.Node, deep int) api.Datum {
	if n.Rep == api.Optional && r.Intn(3) == 0 {
		return none()
	}
	if n.Rep == api.Repeated {
		many := r.Intn(4)
		if deep < 3 && r.Intn(20) == 0 {
			many = api.MaxList - r.Intn(2)
		}
		n.Rep = api.Required
		var d api.Datum
		for range many {
			d.L = append(d.L, anyDatum(r, n, deep+1))
		}
		return d
	}
	if n.Kind != api.Group {
		return api.Datum{V: anyValue(r, n.Kind)}
	}
	var d api.Datum
	for _, in := range n.Sub {
		d.F = append(d.F, anyDatum(r, in, deep+1))
	}
	return d
}

func anyRecord(r *rand.Rand) (api.Node, api.Datum) {
	root := anySchema(r, 1+r.Intn(12))
	return root, anyDatum(r, root, 0)
}

// copied with lists of its own.
func copied(d api.Datum) api.Datum {
	for _, l := range []*[]api.Datum{&d.L, &d.F} {
		*l = slices.Clone(*l)
		for i := range *l {
			(*l)[i] = copied((*l)[i])
		}
	}
	return d
}

// all that stands in a record, itself first.
func all(d *api.Datum) []*api.Datum {
	l := []*api.Datum{d}
	for i := range d.L {
		l = append(l, all(&d.L[i])...)
	}
	for i := range d.F {
		l = append(l, all(&d.F[i])...)
	}
	return l
}

// errorOf a datum by the chapter's words: what is told of is taken away, and nothing
// else may be left.
func errorOf(n api.Node, d api.Datum) error {
	required, rest := n, d
	required.Rep = api.Required
	switch {
	case n.Rep == api.Optional && !d.None:
		return errorOf(required, d)
	case n.Rep == api.Optional:
		rest.None = false
	case n.Rep == api.Repeated:
		rest.L = nil
		if len(d.L) > 40 {
			return api.ErrBound
		}
	case n.Kind == api.Group:
		rest.F = nil
		if len(d.F) != len(n.Sub) {
			return api.ErrShape
		}
	default:
		rest.V = api.Value{}
	}
	if !isNothing(rest) {
		return api.ErrShape
	}
	switch {
	case n.Rep == api.Optional:
	case n.Rep == api.Repeated:
		for _, e := range d.L {
			if err := errorOf(required, e); err != nil {
				return err
			}
		}
	case n.Kind == api.Group:
		for i, in := range n.Sub {
			if err := errorOf(in, d.F[i]); err != nil {
				return err
			}
		}
	default:
		if _, err := enc.Plain(n.Kind, []api.Value{d.V}); err != nil {
			return api.ErrKind
		}
	}
	return nil
}

// spoil one thing in it, which may leave it right.
func spoil(r *rand.Rand, d api.Datum) api.Datum {
	d = copied(d)
	l := all(&d)
	x, other := l[r.Intn(len(l))], copied(*l[r.Intn(len(l))])
	switch r.Intn(12) {
	case 0:
		x.None = !x.None
	case 1:
		x.V = other.V
	case 2:
		x.V.Kind = r.Intn(9) - 1
	case 3:
		x.V.N = []int64{0, 1, 2, -1, math.MaxInt32 + 1, math.MinInt32 - 1, math.MaxInt64}[r.Intn(7)]
	case 4:
		x.V.S = string(make([]byte, []int{0, 1, 100, 101}[r.Intn(4)]))
	case 5:
		x.L = copied(other).L
	case 6:
		x.F = copied(other).F
	case 7:
		x.L = make([]api.Datum, []int{0, 1, 40, 41}[r.Intn(4)])
	case 8:
		x.F = append(x.F, api.Datum{})
	case 9:
		x.F = x.F[:max(0, len(x.F)-1)]
	case 10:
		for range 1 + r.Intn(42) {
			x.L = append(x.L, copied(other))
		}
	case 11:
		*x = copied(other)
	}
	return d
}

func TestP50Right(t *testing.T) {
	for name, d := range map[string]api.Datum{
		"all of it":    smallOne(),
		"nothing":      fields(whole(0), none(), list()),
		"an empty one": fields(whole(math.MinInt32), fields(list(), double(0)), api.Datum{L: []api.Datum{}, F: []api.Datum{}}),
		"40 elements":  fields(whole(math.MaxInt32), none(), list(slices.Repeat([]api.Datum{long(1)}, 40)...)),
		"100 bytes":    fields(whole(1), fields(list(fields(text(string(make([]byte, 100))), truth(1))), double(math.NaN())), list()),
	} {
		if err := data.Check(small(), d); err != nil {
			t.Errorf("%s: %v", name, err)
		}
	}
	deep := schemaOf("repeated group a #1 { repeated group a #2 { repeated group a #3 { repeated group a #4 { repeated int a #5; } } } }")
	d := list()
	for range 4 {
		d = list(fields(d), fields(list()))
	}
	if err := data.Check(deep, fields(d)); err != nil {
		t.Error(err)
	}
}

func TestP50Wrong(t *testing.T) {
	forty := slices.Repeat([]api.Datum{long(1)}, 40)
	more := append(slices.Clone(forty), long(1))
	in := func(d, e api.Datum) api.Datum { return fields(whole(1), fields(list(fields(d, e)), double(1)), list()) }
	b := func(b api.Datum) api.Datum { return fields(whole(1), b, list()) }
	a := func(a api.Datum) api.Datum { return fields(a, none(), list()) }
	g := func(g api.Datum) api.Datum { return fields(whole(1), none(), g) }
	for i, c := range []struct {
		d   api.Datum
		err error
	}{
		// The root.
		{api.Datum{}, api.ErrShape}, {none(), api.ErrShape}, {list(smallOne()), api.ErrShape}, {whole(1), api.ErrShape},
		{fields(whole(1), none()), api.ErrShape}, {fields(whole(1), none(), list(), list()), api.ErrShape}, {fields(none(), whole(1), list()), api.ErrShape},
		{api.Datum{None: true, F: smallOne().F}, api.ErrShape}, {api.Datum{V: api.Value{N: 1}, F: smallOne().F}, api.ErrShape}, {api.Datum{L: more, F: smallOne().F}, api.ErrShape},
		// A leaf: first what it has beside the value.
		{a(api.Datum{}), api.ErrKind}, {a(long(1)), api.ErrKind}, {a(truth(1)), api.ErrKind}, {a(text("")), api.ErrKind}, {a(double(1)), api.ErrKind},
		{a(whole(math.MaxInt32 + 1)), api.ErrKind}, {a(whole(math.MinInt32 - 1)), api.ErrKind}, {a(api.Datum{V: api.Value{Kind: api.Int, S: "x"}}), api.ErrKind},
		{a(none()), api.ErrShape}, {a(list()), api.ErrKind}, {a(list(whole(1))), api.ErrShape}, {a(fields(whole(1))), api.ErrShape},
		{a(api.Datum{None: true, V: whole(1).V}), api.ErrShape}, {a(api.Datum{L: more, V: whole(1).V}), api.ErrShape}, {a(api.Datum{F: forty, V: whole(1).V}), api.ErrShape},
		{a(api.Datum{None: true, V: long(1).V}), api.ErrShape}, {a(api.Datum{L: forty, V: long(1).V}), api.ErrShape}, {a(api.Datum{F: forty, V: long(1).V}), api.ErrShape},
		// One that may be none.
		{b(api.Datum{}), api.ErrShape}, {b(api.Datum{None: true, V: api.Value{Kind: api.Int}}), api.ErrShape}, {b(api.Datum{None: true, V: api.Value{N: 1}}), api.ErrShape}, {b(api.Datum{None: true, V: api.Value{S: "x"}}), api.ErrShape},
		{b(api.Datum{None: true, L: more}), api.ErrShape}, {b(api.Datum{None: true, F: smallOne().F[1].F}), api.ErrShape}, {b(list(none())), api.ErrShape},
		{in(whole(1), truth(1)), api.ErrKind}, {in(api.Datum{}, truth(1)), api.ErrKind}, {in(api.Datum{None: true, V: text("").V}, truth(1)), api.ErrShape}, {in(text(string(make([]byte, 101))), truth(1)), api.ErrKind},
		{in(api.Datum{V: api.Value{Kind: api.Bytes, N: 1}}, truth(1)), api.ErrKind}, {in(none(), truth(2)), api.ErrKind}, {in(none(), truth(-1)), api.ErrKind}, {in(none(), none()), api.ErrShape},
		// A list: first its length.
		{g(list(more...)), api.ErrBound}, {g(api.Datum{None: true, L: more}), api.ErrBound}, {g(api.Datum{V: long(1).V, L: more}), api.ErrBound}, {g(api.Datum{F: forty, L: more}), api.ErrBound}, {g(list(make([]api.Datum, 41)...)), api.ErrBound},
		{g(none()), api.ErrShape}, {g(long(1)), api.ErrShape}, {g(fields(long(1))), api.ErrShape}, {g(api.Datum{None: true, L: forty}), api.ErrShape}, {g(api.Datum{V: long(1).V, L: forty}), api.ErrShape}, {g(api.Datum{F: forty, L: forty}), api.ErrShape},
		{g(list(long(1), whole(1))), api.ErrKind}, {g(list(list(long(1)))), api.ErrShape}, {g(list(none())), api.ErrShape}, {g(list(api.Datum{})), api.ErrKind}, {g(api.Datum{None: true, L: []api.Datum{whole(1)}}), api.ErrShape},
		{b(fields(list(none()), double(1))), api.ErrShape}, {b(fields(list(fields(none())), double(1))), api.ErrShape},
		// What is met first.
		{fields(whole(1<<40), api.Datum{}, list(more...)), api.ErrKind}, {fields(whole(1), api.Datum{}, list(more...)), api.ErrShape}, {fields(whole(1), none(), list(more...)), api.ErrBound},
		{b(fields(list(fields(none(), whole(1)), fields(whole(1))), none())), api.ErrKind}, {b(fields(list(fields(whole(1)), fields(none(), whole(1))), none())), api.ErrShape},
		{g(list(whole(1), none())), api.ErrKind}, {g(list(none(), whole(1))), api.ErrShape}, {fields(list(more...), none(), list(more...)), api.ErrShape},
		{fields(long(1), none()), api.ErrShape},
	} {
		if err := data.Check(small(), c.d); err != c.err {
			t.Errorf("%d: %v, not %v", i, err, c.err)
		}
	}
}

func TestP50EveryKind(t *testing.T) {
	words := []string{"group", "bool", "int", "long", "bytes", "double"}
	for kind := api.Bool; kind <= api.Double; kind++ {
		root := schemaOf("required " + words[kind] + " a #1;")
		for _, v := range []api.Value{{N: 0}, {N: 1}, {N: 2}, {N: -1}, {N: math.MaxInt32}, {N: math.MinInt32}, {N: math.MaxInt32 + 1}, {N: math.MinInt32 - 1}, {N: math.MaxInt64}, {N: math.MinInt64}, {S: "x"}, {S: string(make([]byte, 100))}, {S: string(make([]byte, 101))}, {N: 1, S: "x"}} {
			for v.Kind = -1; v.Kind <= 6; v.Kind++ {
				var want error
				if _, err := enc.Plain(kind, []api.Value{v}); err != nil {
					want = api.ErrKind
				}
				if err := data.Check(root, fields(api.Datum{V: v})); err != want {
					t.Errorf("%s: %v: %v, not %v", words[kind], v, err, want)
				}
			}
		}
	}
}

func TestP50ByTheRule(t *testing.T) {
	r := rand.New(rand.NewSource(50))
	seen := map[error]int{}
	for range 40000 {
		root, d := anyRecord(r)
		if err := data.Check(root, d); err != nil {
			t.Fatalf("%+v of %+v: %v", d, root, err)
		}
		for range 1 + r.Intn(2) {
			d = spoil(r, d)
		}
		want := errorOf(root, d)
		if err := data.Check(root, d); err != want {
			t.Fatalf("%+v of %+v: %v, not %v", d, root, err, want)
		}
		seen[want]++
	}
	if len(seen) != 4 || seen[api.ErrBound] < 100 || seen[api.ErrKind] < 100 {
		t.Error(seen)
	}
}

// wrongRoots with their errors, told ahead of all that is wrong with a record.
func wrongRoots() map[error]api.Node {
	twice := small()
	twice.Sub = append(twice.Sub, twice.Sub[0])
	wide := small()
	wide.Sub = slices.Repeat(wide.Sub, 20)
	return map[error]api.Node{api.ErrShape: {}, api.ErrName: twice, api.ErrBound: wide}
}

func TestP50ValidsErrors(t *testing.T) {
	for want, root := range wrongRoots() {
		for _, d := range []api.Datum{smallOne(), fields(none(), list(make([]api.Datum, 41)...))} {
			if err := data.Check(root, d); err != want {
				t.Errorf("%v, not %v", err, want)
			}
			if s, err := data.Text(root, d); s != "" || err != want {
				t.Errorf("Text: %q, %v, not %v", s, err, want)
			}
			if c, err := data.Cut(root, []int{-1}, d); !isNothing(c) || err != want {
				t.Errorf("Cut: %v, %v, not %v", c, err, want)
			}
			if l, err := data.Walk(root, d, -1); len(l) != 0 || err != want {
				t.Errorf("Walk: %v, %v, not %v", l, err, want)
			}
		}
		for _, s := range []string{"", "{a:1}", string(make([]byte, api.MaxText+1))} {
			if d, err := data.Read(root, s); !isNothing(d) || err != want {
				t.Errorf("Read: %v, %v, not %v", d, err, want)
			}
		}
	}
}

// TestP50ChecksErrors: those who ask Check tell what it tells, and nothing beside it.
func TestP50ChecksErrors(t *testing.T) {
	r := rand.New(rand.NewSource(51))
	for range 5000 {
		root, d := anyRecord(r)
		d = spoil(r, d)
		want := errorOf(root, d)
		if want == nil {
			continue
		}
		if s, err := data.Text(root, d); s != "" || err != want {
			t.Fatalf("Text: %q, %v, not %v", s, err, want)
		}
		for _, ids := range [][]int{nil, {0}, {-1}} {
			if c, err := data.Cut(root, ids, d); !isNothing(c) || err != want {
				t.Fatalf("Cut: %v, %v, not %v", c, err, want)
			}
		}
		leaves, _ := schema.Leaves(root)
		for _, id := range []int{-1, 0, leaves[0].ID} {
			if l, err := data.Walk(root, d, id); len(l) != 0 || err != want {
				t.Fatalf("Walk: %v, %v, not %v", l, err, want)
			}
		}
	}
}

// TestP1 of lists that are nil or shared so that they seem endless.
func TestP1NothingPanics(t *testing.T) {
	endless := api.Datum{}
	for range 60 {
		l := slices.Repeat([]api.Datum{endless}, 3)
		endless = api.Datum{None: true, V: api.Value{Kind: 9}, L: l, F: l}
	}
	nodes := api.Node{ID: 1, Name: "a", Rep: api.Required, Kind: api.Int}
	for range 60 {
		nodes = api.Node{ID: 1, Name: "a", Rep: api.Required, Sub: []api.Node{nodes, nodes, nodes}}
	}
	for _, root := range []api.Node{{}, small(), nodes, {Name: "root", Rep: api.Required}, {Name: "root", Rep: api.Required, Sub: []api.Node{{}}}} {
		for _, d := range []api.Datum{{}, smallOne(), endless, list(endless), fields(endless), {L: make([]api.Datum, 1<<20)}, {F: make([]api.Datum, 1<<20)}} {
			data.Check(root, d)
			data.Text(root, d)
			for _, id := range []int{0, 1, 4, 1001, math.MaxInt, math.MinInt} {
				data.Cut(root, []int{id}, d)
				data.Walk(root, d, id)
			}
			data.Cut(root, nil, d)
		}
		for _, s := range []string{"", "{", "{a", "\xff", string(make([]byte, 1<<20))} {
			data.Read(root, s)
		}
	}
	r := rand.New(rand.NewSource(1))
	for range 3000 {
		root := anySchema(r, 39)
		b := make([]byte, r.Intn(40))
		for i := range b {
			b[i] = byte(r.Intn(256))
		}
		data.Read(root, string(b))
		data.Read(root, "{"+root.Sub[0].Name+":"+string(b))
	}
}

// TestP1AsManyAsCanBe: lists in lists, all full, one of them shared by all.
func TestP1AsManyAsCanBe(t *testing.T) {
	root := schemaOf("repeated group a #1 { repeated group a #2 { repeated group a #3 { repeated int a #5; } } }")
	d := list(slices.Repeat([]api.Datum{whole(7)}, 40)...)
	for range 3 {
		d = list(slices.Repeat([]api.Datum{fields(d)}, 40)...)
	}
	d.L = d.L[:4]
	many := 4 * 40 * 40 * 40
	if l, err := data.Walk(root, fields(d), 5); len(l) != many || err != nil {
		t.Error(len(l), err)
	}
	if s, err := data.Text(root, fields(d)); len(s) < 2*many || err != nil {
		t.Error(len(s), err)
	}
	if c, err := data.Cut(root, []int{5}, fields(d)); err != nil || !reflect.DeepEqual(c, fields(d)) {
		t.Error(err)
	}
}

// guarded: the same, with something behind the length of each of its lists.
func guarded(d api.Datum) api.Datum {
	for _, l := range []*[]api.Datum{&d.L, &d.F} {
		var out []api.Datum
		for _, in := range *l {
			out = append(out, guarded(in))
		}
		*l = append(out, text("behind"))[:len(out)]
	}
	return d
}

// seen: all that there is, with what stands behind the lengths.
func seen(d api.Datum) string {
	s := fmt.Sprint(d.None, d.V, len(d.L), len(d.F))
	for _, l := range [][]api.Datum{d.L, d.F} {
		for _, in := range l[:cap(l)] {
			s += "(" + seen(in) + ")"
		}
	}
	return s
}

func TestP4OnlyRead(t *testing.T) {
	r := rand.New(rand.NewSource(4))
	for range 500 {
		root, d := anyRecord(r)
		d = guarded(d)
		ids := []int{root.Sub[0].ID, 7777}[:1]
		before, schemaBefore := seen(d), fmt.Sprint(root)
		if err := data.Check(root, d); err != nil {
			t.Fatal(err)
		}
		data.Text(root, d)
		leaves, _ := schema.Leaves(root)
		l, _ := data.Walk(root, d, leaves[0].ID)
		clear(l[:cap(l)])
		c, err := data.Cut(root, ids, d)
		if err != nil {
			t.Fatal(err)
		}
		overwrite(&c)
		if seen(d) != before || fmt.Sprint(root) != schemaBefore || ids[0] != root.Sub[0].ID || ids[:2][1] != 7777 {
			t.Fatalf("%+v of %+v was changed", d, root)
		}
	}
}

// overwrite all lists, as far as their memory goes.
func overwrite(d *api.Datum) {
	for _, l := range [][]api.Datum{d.L, d.F} {
		for i := range l {
			overwrite(&l[i])
		}
		for i := range l[:cap(l)] {
			l[:cap(l)][i] = text("overwritten")
		}
	}
}

// TestP4ListsApart: no two lists of an answer share memory: each is written over by itself.
func TestP4ListsApart(t *testing.T) {
	r := rand.New(rand.NewSource(44))
	for range 300 {
		root, d := anyRecord(r)
		s, err := data.Text(root, d)
		if err != nil || len(s) > api.MaxText {
			continue
		}
		read, err := data.Read(root, s)
		if err != nil {
			t.Fatal(err)
		}
		cut, err := data.Cut(root, []int{0}, d)
		if err != nil {
			t.Fatal(err)
		}
		for _, answer := range []api.Datum{read, cut} {
			number := int64(0)
			for _, x := range all(&answer) {
				for _, l := range [][]api.Datum{x.L, x.F} {
					for i := range l[:cap(l)] {
						number++
						l[:cap(l)][i].V.N = number
					}
				}
			}
			number = 0
			for _, x := range all(&answer) {
				for _, l := range [][]api.Datum{x.L, x.F} {
					for _, in := range l[:cap(l)] {
						number++
						if in.V.N != number {
							t.Fatalf("two lists of %s share memory", s)
						}
					}
				}
			}
		}
	}
}
