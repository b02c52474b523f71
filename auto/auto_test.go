package auto_test

import (
	"fmt"
	"math/rand"
	"slices"
	"strconv"
	"strings"
	"testing"

	"shredcol/api"
	"shredcol/auto"
	"shredcol/schema"
)

// Bare errors are held by ==, since those without a place must not be wrapped.

func schemaOf(s string) api.Node {
	root, err := schema.Read(s)
	if err != nil {
		panic(s + ": " + err.Error())
	}
	return root
}

func leavesOf(root api.Node) []schema.Leaf {
	l, err := schema.Leaves(root)
	if err != nil {
		panic(err)
	}
	return l
}

func rootOf(nodes []api.Node) api.Node {
	return api.Node{Name: "root", Rep: api.Required, Kind: api.Group, Sub: nodes}
}

// anySchema: right, with nodes of all kinds.
func anySchema(r *rand.Rand, left int) api.Node {
	ids := r.Perm(api.MaxID)
	var nodes func(deep int) []api.Node
	nodes = func(deep int) []api.Node {
		var l []api.Node
		for left > 0 && (len(l) == 0 || r.Intn(3) > 0) {
			left--
			n := api.Node{ID: ids[left] + 1, Name: nameOf(len(l)), Rep: 1 + r.Intn(3), Kind: 1 + r.Intn(5)}
			if left > 0 && deep < api.MaxDeep && r.Intn(3) > 0 {
				n.Kind, n.Sub = api.Group, nodes(deep+1)
			}
			l = append(l, n)
		}
		return l
	}
	return rootOf(nodes(2))
}

func nameOf(i int) string { return strings.Repeat("a", i/26) + string(rune('a'+i%26)) }

// allForests of so many nodes, of each Rep, without names and IDs.
func allForests(many int) [][]api.Node {
	if many == 0 {
		return [][]api.Node{nil}
	}
	var all [][]api.Node
	for in := range many {
		for _, sub := range allForests(in) {
			for _, behind := range allForests(many - 1 - in) {
				for rep := api.Required; rep <= api.Repeated; rep++ {
					n := api.Node{Rep: rep, Kind: api.Int, Sub: sub}
					if in > 0 {
						n.Kind = api.Group
					}
					all = append(all, append([]api.Node{n}, behind...))
				}
			}
		}
	}
	return all
}

// named: a copy with names, and with IDs that do not rise.
func named(nodes []api.Node, last *int) []api.Node {
	var l []api.Node
	for i, n := range nodes {
		*last++
		n.ID, n.Name = 900-*last*7, nameOf(i)
		n.Sub = named(n.Sub, last)
		l = append(l, n)
	}
	return l
}

// deepest: so many lists in each other, in each of them a leaf ahead and one behind.
func deepest(lists int) string {
	head, tail := "", ""
	for i := range lists {
		id := strconv.Itoa(i + 1)
		head += "repeated group g #" + id + " { required int a #10" + id + "; "
		tail = "required int z #20" + id + "; } " + tail
	}
	return head + "repeated int b #300; " + tail
}

// web is the schema of the machine's inventors.
const web = `required long docid #1;
optional group links #2 { repeated long backward #3; repeated long forward #4; }
repeated group name #5 { repeated group language #6 { required bytes code #7; optional bytes country #8; } optional bytes url #9; }`

func TestP80Known(t *testing.T) {
	for _, c := range []struct{ schema, want string }{
		{"required int a #1;", "[[1]]"},
		{"optional int a #1;", "[[1]]"},
		{"repeated int a #1;", "[[1 0]]"},
		{"required int a #9; required int b #8; optional int c #7;", "[[1] [2] [3]]"},
		{"repeated int a #1; repeated int b #2;", "[[1 0] [2 1]]"},
		{"repeated group a #1 { required int b #2; }", "[[1 0]]"},
		{"repeated group a #1 { required int b #2; required int c #3; }", "[[1 1] [2 0]]"},
		{"required group a #1 { required int b #2; required int c #3; }", "[[1] [2]]"},
		{"optional group a #1 { repeated int b #2; required int c #3; }", "[[1 0] [2]]"},
		// A list's last leaf, whose own list is an inner one.
		{"repeated group a #1 { required int b #2; repeated int c #3; }", "[[1 1] [2 0 1]]"},
		{"repeated group a #1 { repeated int b #2; required int c #3; }", "[[1 1 0] [2 0]]"},
		{"repeated group a #1 { repeated group b #2 { repeated int c #3; } }", "[[1 0 0 0]]"},
		// Lists of one depth that are not the same: none of their levels is common.
		{"repeated group a #1 { required int b #2; } repeated group c #3 { required int d #4; required int e #5; }", "[[1 0] [2 2] [3 1]]"},
		{"repeated group a #1 { repeated group b #2 { required int c #3; } repeated group d #4 { required int e #5; } } required int f #6;", "[[1 1 0] [2 0 1] [3]]"},
		// Groups that are no lists, around and between lists, make no levels.
		{"optional group a #1 { repeated group b #2 { required group c #3 { repeated group d #4 { optional int e #5; } required int f #6; } } required int g #7; }", "[[1 1 0] [2 0] [3]]"},
		{"required int a #1; repeated group b #2 { required int c #3; repeated group d #4 { required int e #5; required int f #6; } } required int g #7;", "[[1] [2 2] [3 3 3] [4 1 2] [5]]"},
		{web, "[[1] [2 1] [3 2] [4 4 4] [5 5 3] [6 3]]"},
		{deepest(4), "[[1 1] [2 2 2] [3 3 3 3] [4 4 4 4 4] [5 5 5 5 5 4] [6 6 6 6 3] [7 7 7 2] [8 8 1] [9 0]]"},
	} {
		m, err := auto.Build(schemaOf(c.schema))
		if got := fmt.Sprint(m.Next); got != c.want || err != nil {
			t.Errorf("%s: %s, %v, not %s", c.schema, got, err, c.want)
		}
	}
}

// byTheRule: the machine out of which leaves stand under which nodes.
func byTheRule(t *testing.T, root api.Node) [][]int {
	t.Helper()
	leaves := leavesOf(root)
	isUnder := func(id, leaf int) bool {
		ids, err := schema.Under(root, id)
		if err != nil {
			t.Fatal(err)
		}
		return leaf < len(leaves) && slices.Contains(ids, leaves[leaf].ID)
	}
	var all [][]int
	for k, leaf := range leaves {
		next := []int{k + 1}
		for _, id := range leaf.Path {
			n, err := schema.Find(root, id)
			if err != nil {
				t.Fatal(err)
			}
			if n.Rep != api.Repeated {
				continue
			}
			// A leaf behind that stands in this list stands in all those around it.
			to := k + 1
			if !isUnder(id, k+1) {
				for to = 0; !isUnder(id, to); to++ {
				}
			}
			next = append(next, to)
		}
		all = append(all, next)
	}
	return all
}

func holdMachine(t *testing.T, root api.Node) auto.Machine {
	t.Helper()
	m, err := auto.Build(root)
	if want := byTheRule(t, root); fmt.Sprint(m.Next) != fmt.Sprint(want) || err != nil {
		t.Fatalf("%+v: %v, %v, not %v", root, m.Next, err, want)
	}
	return m
}

func TestP80AllSmallOnes(t *testing.T) {
	for many := 1; many <= 5; many++ {
		for _, nodes := range allForests(many) {
			last := 0
			holdMachine(t, rootOf(named(nodes, &last)))
		}
	}
}

func TestP80ByTheRule(t *testing.T) {
	r := rand.New(rand.NewSource(80))
	for range 1000 {
		root := anySchema(r, 1+r.Intn(api.MaxNodes-1))
		m := holdMachine(t, root)
		for k, leaf := range leavesOf(root) {
			if len(m.Next[k]) != leaf.MaxRep+1 {
				t.Fatalf("%+v: leaf %d has %d", root, k, len(m.Next[k]))
			}
		}
	}
}

// TestP80Bounds: MaxNodes nodes side by side, and lists in each other as deep as it goes.
func TestP80Bounds(t *testing.T) {
	var nodes []api.Node
	for i := range api.MaxNodes - 1 {
		nodes = append(nodes, api.Node{ID: api.MaxID - i, Name: nameOf(i), Rep: api.Repeated, Kind: api.Bytes})
	}
	m := holdMachine(t, rootOf(nodes))
	if len(m.Next) != 39 || fmt.Sprint(m.Next[38]) != "[39 38]" {
		t.Error(m.Next)
	}
	deep := schemaOf("repeated group a #1 { repeated group b #2 { repeated group c #3 { repeated group d #4 { repeated int e #5; repeated int f #6; } } } }")
	if m := holdMachine(t, deep); fmt.Sprint(m.Next) != "[[1 1 1 1 1 0] [2 0 0 0 0 1]]" {
		t.Error(m.Next)
	}
	if m, err := auto.Build(rootOf(append(nodes, api.Node{ID: 1, Name: "zzz", Rep: api.Required, Kind: api.Int}))); err != api.ErrBound || len(m.Next) > 0 {
		t.Error(m, err)
	}
}

// wrongSchemas with schema.Valid's errors.
func wrongSchemas() []wrongSchema {
	leaf := api.Node{ID: 1, Name: "a", Rep: api.Required, Kind: api.Int}
	in := func(n api.Node) api.Node {
		return api.Node{ID: n.ID + 1, Name: "a", Rep: api.Repeated, Sub: []api.Node{n}}
	}
	deep := leaf
	for range 5 {
		deep = in(deep)
	}
	empty, big, far := leaf, leaf, leaf
	empty.Kind, big.Name, far.ID = api.Group, "A", api.MaxID+1
	kind, rep, full := leaf, leaf, leaf
	kind.Kind, rep.Rep, full.Sub = 6, 0, []api.Node{{ID: 2, Name: "b", Rep: api.Required, Kind: api.Int}}
	return []wrongSchema{
		{rootOf([]api.Node{deep}), api.ErrBound},
		{rootOf(slices.Repeat([]api.Node{leaf}, 40)), api.ErrBound},
		{api.Node{}, api.ErrShape},
		{leaf, api.ErrShape},
		{rootOf(nil), api.ErrShape},
		{rootOf([]api.Node{empty}), api.ErrShape},
		{rootOf([]api.Node{kind}), api.ErrShape},
		{rootOf([]api.Node{rep}), api.ErrShape},
		{rootOf([]api.Node{full}), api.ErrShape},
		{rootOf([]api.Node{big}), api.ErrName},
		{rootOf([]api.Node{far}), api.ErrName},
		{rootOf([]api.Node{leaf, leaf}), api.ErrName},
		{rootOf([]api.Node{leaf, {ID: 1, Name: "b", Rep: api.Required, Kind: api.Int}}), api.ErrName},
	}
}

type wrongSchema struct {
	root api.Node
	err  error
}

func TestP80Errors(t *testing.T) {
	for i, c := range wrongSchemas() {
		if m, err := auto.Build(c.root); err != c.err || len(m.Next) > 0 {
			t.Errorf("%d: %v, %v, not %v", i, m, err, c.err)
		}
	}
}

// listsIn an answer, as far as their memory goes.
func listsIn(m auto.Machine) [][]int {
	var l [][]int
	for _, next := range m.Next[:cap(m.Next)] {
		l = append(l, next[:cap(next)])
	}
	return l
}

// areApart: what is written into one list is not to be seen in another one.
func areApart(lists [][]int) bool {
	number := 0
	for _, l := range lists {
		for i := range l {
			number++
			l[i] = number
		}
	}
	number = 0
	for _, l := range lists {
		for _, n := range l {
			number++
			if n != number {
				return false
			}
		}
	}
	return true
}

func TestP4Machines(t *testing.T) {
	r := rand.New(rand.NewSource(4))
	for range 300 {
		root := anySchema(r, 1+r.Intn(20))
		root.Sub = append(slices.Clone(root.Sub), api.Node{ID: -1})[:len(root.Sub)]
		before := fmt.Sprint(root, root.Sub[:cap(root.Sub)])
		first, err := auto.Build(root)
		want := fmt.Sprint(first)
		second, err2 := auto.Build(root)
		if err != nil || err2 != nil || fmt.Sprint(second) != want || fmt.Sprint(root, root.Sub[:cap(root.Sub)]) != before {
			t.Fatalf("%v, %v; %s: %v, then %v", err, err2, before, want, second)
		}
		if !areApart(append(listsIn(first), listsIn(second)...)) {
			t.Fatalf("two lists of the machine of %s share memory", before)
		}
		if third, err := auto.Build(root); fmt.Sprint(third) != want || err != nil {
			t.Fatalf("%v, %v, not %v", third, err, want)
		}
	}
}
