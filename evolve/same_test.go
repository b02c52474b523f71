package evolve_test

import (
	"fmt"
	"math/rand"
	"slices"
	"testing"

	"shredcol/api"
	"shredcol/evolve"
	"shredcol/schema"
)

func TestP132Known(t *testing.T) {
	none := rootOf()
	for _, c := range []struct {
		a, b string
		want bool
	}{
		{"required int a #1;", "required int a #1;", true},
		{"required int a #1;", "required int b #1;", true},
		{"required int a #1;", "required int a #2;", true},
		{"required int a #1;", "required bytes a #2;", true},
		{"required int a #1; optional bool b #2;", "optional bool a #2; repeated long c #3; required int b #1;", true},
		{"required int a #1;", "required long a #1;", true},
		{"required long a #1;", "required int a #1;", false},
		{"repeated int a #1;", "repeated long a #1;", true},
		{"required int a #1;", "optional int a #1;", true},
		{"optional int a #1;", "required int a #1;", false},
		{"required int a #1;", "optional long a #1;", true},
		{"required long a #1;", "optional int a #1;", false},
		{"optional int a #1;", "required long a #1;", false},
		{"required int a #1;", "repeated int a #1;", false},
		{"optional int a #1;", "repeated int a #1;", false},
		{"repeated int a #1;", "optional int a #1;", false},
		{"repeated int a #1;", "required int a #1;", false},
		{"required bool a #1;", "required int a #1;", false},
		{"required bool a #1;", "required long a #1;", false},
		{"required int a #1;", "required double a #1;", false},
		{"required int a #1;", "required bytes a #1;", false},
		{"required long a #1;", "required double a #1;", false},
		{"required int a #1;", "required group a #1 { required int b #2; }", false},
		{"required group a #1 { required int b #2; }", "required int a #1;", false},
		{"required group a #1 { required int b #2; }", "optional group x #1 { required long y #2; }", true},
		{"required group a #1 { required int b #2; }", "required group a #1 { required int b #3; }", true},
		{"required group a #1 { required int b #2; }", "required int b #2;", false},
		{"required int b #2;", "required group a #1 { required int b #2; }", false},
		{"required group a #1 { required int b #2; }", "required group a #3 { required int b #2; }", false},
		{"required group a #1 { required int b #2; } required group c #3 { required int d #4; }", "required group c #3 { required int d #4; } required group a #1 { required int b #2; }", true},
		{"required group a #1 { required int b #2; } required group c #3 { required int d #4; }", "required group a #1 { required int d #4; } required group c #3 { required int b #2; }", false},
		{"required group a #1 { required int b #2; } required group c #3 { required int d #4; }", "required group a #1 { required int b #2; required int d #4; } required group c #3 { required int e #5; }", false},
		{"required group a #1 { required group b #2 { required int c #3; required int d #4; } }", "required group a #1 { required group b #2 { optional int d #4; required int e #5; } optional int f #6; }", true},
		{"required group a #1 { required group b #2 { required int c #3; required int d #4; } }", "required group a #1 { required group b #2 { repeated int d #4; required int e #5; } optional int f #6; }", false},
	} {
		a, b := schemaOf(c.a), schemaOf(c.b)
		if got := evolve.Same(a, b); got != c.want {
			t.Errorf("%s to %s: %v", c.a, c.b, got)
		}
		if !evolve.Same(a, none) || !evolve.Same(none, a) || !evolve.Same(a, a) {
			t.Errorf("%s and a root without nodes, or itself", c.a)
		}
	}
	if !evolve.Same(none, none) {
		t.Error("a root without nodes and itself")
	}
}

// TestP132NoSchemas: what is none is the same as nothing.
func TestP132NoSchemas(t *testing.T) {
	right := schemaOf("required int a #1;")
	group := func(id int, sub ...api.Node) api.Node {
		return api.Node{ID: id, Name: "a", Rep: api.Required, Kind: api.Group, Sub: sub}
	}
	leaf := right.Sub[0]
	for i, wrong := range []api.Node{
		{}, leaf, group(0), group(1), {Name: "root", Rep: api.Optional}, {Name: "root"}, {Name: "root", Rep: api.Required, Kind: api.Int}, {Name: "root", Rep: api.Required, ID: 1},
		{Name: "root", Rep: api.Optional, Sub: right.Sub}, {Name: "a", Rep: api.Required, Sub: right.Sub}, {Name: "root", Rep: api.Required, ID: 1, Sub: right.Sub},
		rootOf(group(1)), rootOf(leaf, leaf), rootOf(api.Node{ID: 1001, Name: "a", Rep: api.Required, Kind: api.Int}), rootOf(api.Node{ID: 1, Name: "A", Rep: api.Required, Kind: api.Int}), rootOf(api.Node{ID: 1, Name: "a", Kind: api.Int}), rootOf(api.Node{ID: 1, Name: "a", Rep: api.Required, Kind: 6}),
	} {
		for _, other := range []api.Node{right, rootOf(), wrong} {
			if evolve.Same(wrong, other) || evolve.Same(other, wrong) {
				t.Errorf("%d: %v and %v", i, wrong, other)
			}
		}
	}
}

type stands struct {
	n      api.Node
	around int
}

func allNodes(n api.Node, around int) []stands {
	l := []stands{{n, around}}
	for _, in := range n.Sub {
		l = append(l, allNodes(in, n.ID)...)
	}
	return l
}

// isSame by the chapter's words, each node with each.
func isSame(a, b api.Node) bool {
	for _, x := range allNodes(a, -1) {
		for _, y := range allNodes(b, -1) {
			if x.n.ID != y.n.ID {
				continue
			}
			kinds := fmt.Sprint(x.n.Kind, y.n.Kind)
			reps := fmt.Sprint(x.n.Rep, y.n.Rep)
			if x.n.Kind != y.n.Kind && kinds != "2 3" || x.n.Rep != y.n.Rep && reps != "1 2" || x.around != y.around {
				return false
			}
		}
	}
	return true
}

// twisted: one node's kind, rep or number is another one.
func twisted(r *rand.Rand, n api.Node) api.Node {
	l := allNodes(n, -1)
	id := l[r.Intn(len(l))].n.ID
	other := l[r.Intn(len(l))].n.ID
	var twist func(n api.Node) api.Node
	what, rep, kind := r.Intn(3), 1+r.Intn(3), 1+r.Intn(5)
	twist = func(n api.Node) api.Node {
		n.Sub = slices.Clone(n.Sub)
		for i := range n.Sub {
			n.Sub[i] = twist(n.Sub[i])
		}
		switch {
		case n.ID == 0 || n.ID != id && n.ID != other:
		case what == 0 && n.ID == id:
			n.Rep = rep
		case what == 1 && n.ID == id && n.Kind != api.Group:
			n.Kind = kind
		case what == 2 && id > 0 && other > 0:
			n.ID = id + other - n.ID
		}
		return n
	}
	return twist(n)
}

func TestP132ByTheRule(t *testing.T) {
	r := rand.New(rand.NewSource(132))
	told := map[bool]int{}
	for range 6000 {
		edits := anyEdits(r, 1+r.Intn(10))
		a, _, _ := replayed(edits[:r.Intn(len(edits)+1)])
		b, _, _ := replayed(edits)
		was, now := a.root(), b.root()
		if r.Intn(2) == 0 {
			was, now = now, was
		}
		for range r.Intn(3) {
			was = twisted(r, was)
		}
		if len(was.Sub) > 0 && schema.Valid(was) != nil {
			t.Fatalf("%v is no schema", was)
		}
		want := isSame(was, now)
		told[want]++
		if got := evolve.Same(was, now); got != want {
			t.Fatalf("%s to %s: %v", lineOf(was), lineOf(now), got)
		}
	}
	if told[true] < 1000 || told[false] < 1000 {
		t.Error(told)
	}
}

// TestP132Edits: what edits make of a schema is the same.
func TestP132Edits(t *testing.T) {
	r := rand.New(rand.NewSource(1320))
	for range 500 {
		edits := anyEdits(r, 12)
		now, _, err := evolve.Replay(edits)
		for i := range edits {
			was, _, bad := evolve.Replay(edits[:i])
			if err != nil || bad != nil || !evolve.Same(was, now) {
				t.Fatalf("%q, from %d on: %v, %v", edits, i, err, bad)
			}
		}
	}
}
