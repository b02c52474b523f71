package schema_test

import (
	"fmt"
	"math"
	"math/rand"
	"reflect"
	"slices"
	"testing"

	"shredcol/api"
	"shredcol/schema"
)

func TestP42Leaves(t *testing.T) {
	l, err := schema.Leaves(small())
	if got, want := fmt.Sprint(l), "[{1 2 0 0 [1]} {4 4 1 3 [2 3 4]} {7 5 2 3 [2 3 7]} {5 1 0 1 [2 5]} {6 3 1 1 [6]}]"; got != want || err != nil {
		t.Errorf("%s, %v, not %s", got, err, want)
	}
	deep := nested(4)
	for i := 1; i <= 5; i++ {
		deep = with(deep, i, func(n *api.Node) { n.Rep = api.Repeated })
	}
	l, err = schema.Leaves(deep)
	if got, want := fmt.Sprint(l), "[{5 2 5 5 [1 2 3 4 5]}]"; got != want || err != nil {
		t.Errorf("%s, %v, not %s", got, err, want)
	}
}

// pathsTo the leaves by going up from each of them; in order.
func pathsTo(root api.Node) (paths [][]api.Node) {
	if len(root.Sub) == 0 {
		return [][]api.Node{{root}}
	}
	for _, in := range root.Sub {
		for _, p := range pathsTo(in) {
			paths = append(paths, append([]api.Node{root}, p...))
		}
	}
	return paths
}

func TestP42ByTheRule(t *testing.T) {
	r := rand.New(rand.NewSource(42))
	for range 3000 {
		root := anySchema(r)
		var want []schema.Leaf
		for _, p := range pathsTo(root) {
			last := p[len(p)-1]
			x := schema.Leaf{ID: last.ID, Kind: last.Kind}
			for _, n := range p[1:] {
				x.Path = append(x.Path, n.ID)
				x.MaxRep += []int{0, 0, 0, 1}[n.Rep]
				x.MaxDef += []int{0, 0, 1, 1}[n.Rep]
			}
			want = append(want, x)
		}
		if l, err := schema.Leaves(root); !reflect.DeepEqual(l, want) || err != nil {
			t.Fatalf("%+v: %v, %v, not %v", root, l, err, want)
		}
	}
}

func TestP43Find(t *testing.T) {
	root := small()
	for _, x := range all(root) {
		if n, err := schema.Find(root, x.n.ID); !reflect.DeepEqual(n, x.n) || err != nil {
			t.Errorf("%d: %+v, %v", x.n.ID, n, err)
		}
	}
	for _, id := range []int{-1, 8, 77, 1000, 1001, math.MaxInt, math.MinInt, 1 << 32, 1<<32 + 1} {
		if n, err := schema.Find(root, id); !isNothing(n) || err != api.ErrNone {
			t.Errorf("%d: %+v, %v", id, n, err)
		}
		if l, err := schema.Under(root, id); len(l) != 0 || err != api.ErrNone {
			t.Errorf("under %d: %v, %v", id, l, err)
		}
	}
}

func TestP43Under(t *testing.T) {
	for id, want := range map[int][]int{0: {1, 4, 7, 5, 6}, 1: {1}, 2: {4, 7, 5}, 3: {4, 7}, 4: {4}, 5: {5}, 6: {6}, 7: {7}} {
		if l, err := schema.Under(small(), id); !slices.Equal(l, want) || err != nil {
			t.Errorf("%d: %v, %v, not %v", id, l, err, want)
		}
	}
}

func TestP43ByTheRule(t *testing.T) {
	r := rand.New(rand.NewSource(43))
	for range 400 {
		root := anySchema(r)
		for _, x := range all(root) {
			var want []int
			for _, p := range pathsTo(root) {
				if slices.ContainsFunc(p, func(n api.Node) bool { return n.ID == x.n.ID }) {
					want = append(want, p[len(p)-1].ID)
				}
			}
			if l, err := schema.Under(root, x.n.ID); !slices.Equal(l, want) || err != nil {
				t.Fatalf("%+v under %d: %v, %v, not %v", root, x.n.ID, l, err, want)
			}
			if n, err := schema.Find(root, x.n.ID); !reflect.DeepEqual(n, x.n) || err != nil {
				t.Fatalf("%+v: %d: %+v, %v", root, x.n.ID, n, err)
			}
		}
		no := r.Intn(1200) - 100
		isNone := !slices.ContainsFunc(all(root), func(x stands) bool { return x.n.ID == no })
		if _, err := schema.Find(root, no); (err == api.ErrNone) != isNone {
			t.Fatalf("%+v: %d: %v", root, no, err)
		}
	}
}

func TestP44Project(t *testing.T) {
	for _, c := range []struct {
		ids  []int
		want string
		err  error
	}{
		{[]int{1}, "required int a #1;\n", nil},
		{[]int{6, 1}, "required int a #1;\nrepeated long f #6;\n", nil},
		{[]int{4}, "optional group b #2 {\n  repeated group c #3 {\n    optional bytes d #4;\n  }\n}\n", nil},
		{[]int{4, 4, 4}, "optional group b #2 {\n  repeated group c #3 {\n    optional bytes d #4;\n  }\n}\n", nil},
		{[]int{3}, "optional group b #2 {\n  repeated group c #3 {\n    optional bytes d #4;\n    repeated double a #7;\n  }\n}\n", nil},
		{[]int{3, 4}, "optional group b #2 {\n  repeated group c #3 {\n    optional bytes d #4;\n    repeated double a #7;\n  }\n}\n", nil},
		{[]int{5}, "optional group b #2 {\n  required bool e #5;\n}\n", nil},
		{[]int{6, 5, 7}, "optional group b #2 {\n  repeated group c #3 {\n    repeated double a #7;\n  }\n  required bool e #5;\n}\nrepeated long f #6;\n", nil},
		{[]int{0}, textOf(small()), nil},
		{[]int{4, 0}, textOf(small()), nil},
		{[]int{1, 2, 6}, textOf(small()), nil},
		{nil, "", api.ErrShape},
		{[]int{}, "", api.ErrShape},
		{[]int{8}, "", api.ErrNone},
		{[]int{1, 2, 8}, "", api.ErrNone},
		{[]int{0, -1}, "", api.ErrNone},
		{[]int{math.MaxInt}, "", api.ErrNone},
		{[]int{math.MinInt}, "", api.ErrNone},
		{[]int{1<<32 + 1}, "", api.ErrNone},
	} {
		n, err := schema.Project(small(), c.ids)
		if err != c.err || err != nil && !isNothing(n) {
			t.Errorf("%v: %+v, %v", c.ids, n, err)
		}
		if got := textOf(n); err == nil && got != c.want {
			t.Errorf("%v: %s, not %s", c.ids, got, c.want)
		}
	}
	many := slices.Repeat([]int{1, 4}, 200000)
	if n, err := schema.Project(small(), many); err != nil || len(n.Sub) != 2 {
		t.Error(n, err)
	}
}

// projected by the rule, from the leaves up: those that are on a path with one that is
// asked for.
func projected(root api.Node, ids []int) api.Node {
	stay := map[int]bool{}
	for _, p := range pathsTo(root) {
		if slices.ContainsFunc(p, func(n api.Node) bool { return slices.Contains(ids, n.ID) }) {
			for _, n := range p {
				stay[n.ID] = true
			}
		}
	}
	for _, x := range all(root)[1:] {
		if !stay[x.n.ID] {
			root = without(root, x.n.ID)
		}
	}
	return root
}

func without(n api.Node, id int) api.Node {
	var sub []api.Node
	for _, in := range n.Sub {
		if in.ID != id {
			sub = append(sub, without(in, id))
		}
	}
	n.Sub = sub
	return n
}

func someIDs(r *rand.Rand, root api.Node) []int {
	l := all(root)
	var ids []int
	for range 1 + r.Intn(4) {
		ids = append(ids, l[r.Intn(len(l))].n.ID)
	}
	if r.Intn(8) > 0 {
		ids = slices.DeleteFunc(ids, func(id int) bool { return id == 0 })
	}
	return ids
}

func TestP44ByTheRule(t *testing.T) {
	r := rand.New(rand.NewSource(44))
	for range 5000 {
		root := anySchema(r)
		ids := someIDs(r, root)
		want, wantErr := projected(root, ids), error(nil)
		if len(ids) == 0 {
			want, wantErr = api.Node{}, api.ErrShape
		}
		if n, err := schema.Project(root, ids); !reflect.DeepEqual(n, want) || err != wantErr {
			t.Fatalf("%+v to %v: %+v, %v, not %+v", root, ids, n, err, want)
		}
	}
}

func TestP45Projections(t *testing.T) {
	r := rand.New(rand.NewSource(45))
	for range 5000 {
		root := anySchema(r)
		ids := append(someIDs(r, root), root.Sub[0].ID)
		n, err := schema.Project(root, ids)
		if err != nil || schema.Valid(n) != nil {
			t.Fatalf("%+v to %v: %+v, %v", root, ids, n, err)
		}
		again, err := schema.Project(n, ids)
		if !reflect.DeepEqual(again, n) || err != nil {
			t.Fatalf("%+v to %v again: %+v, %v, not %+v", root, ids, again, err, n)
		}
		whole, _ := schema.Leaves(root)
		some, _ := schema.Leaves(n)
		for _, x := range some {
			for len(whole) > 0 && !reflect.DeepEqual(whole[0], x) {
				whole = whole[1:]
			}
			if len(whole) == 0 {
				t.Fatalf("%+v to %v: the leaf %v is none of the schema's, in order", root, ids, x)
			}
		}
	}
}
