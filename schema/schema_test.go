package schema_test

import (
	"fmt"
	"math"
	"math/rand"
	"reflect"
	"slices"
	"strings"
	"testing"

	"shredcol/api"
	"shredcol/schema"
)

// Bare errors are held by ==, since those without a place must not be wrapped.

func leaf(id int, name string) api.Node {
	return api.Node{ID: id, Name: name, Rep: api.Required, Kind: api.Int}
}

func group(id int, name string, sub ...api.Node) api.Node {
	return api.Node{ID: id, Name: name, Rep: api.Optional, Kind: api.Group, Sub: sub}
}

func rootOf(sub ...api.Node) api.Node {
	return api.Node{Name: "root", Rep: api.Required, Kind: api.Group, Sub: sub}
}

// leavesFrom: so many leaves, with IDs and names of their own.
func leavesFrom(id, many int) []api.Node {
	var l []api.Node
	for i := range many {
		l = append(l, leaf(id+i, nameOf(id+i)))
	}
	return l
}

func nameOf(n int) string {
	return string([]byte{'a' + byte(n/26%26), 'a' + byte(n%26)})
}

// nested: a leaf in so many groups in the root.
func nested(groups int) api.Node {
	n := leaf(groups+1, "x")
	for i := groups; i > 0; i-- {
		n = group(i, "g", n)
	}
	return rootOf(n)
}

// with the node of this ID changed; the given one stays.
func with(n api.Node, id int, change func(n *api.Node)) api.Node {
	n.Sub = slices.Clone(n.Sub)
	for i, in := range n.Sub {
		n.Sub[i] = with(in, id, change)
	}
	if n.ID == id {
		change(&n)
	}
	return n
}

// small schema of the chapter's kinds of nodes.
func small() api.Node {
	return rootOf(
		api.Node{ID: 1, Name: "a", Rep: api.Required, Kind: api.Int},
		api.Node{ID: 2, Name: "b", Rep: api.Optional, Kind: api.Group, Sub: []api.Node{
			{ID: 3, Name: "c", Rep: api.Repeated, Kind: api.Group, Sub: []api.Node{
				{ID: 4, Name: "d", Rep: api.Optional, Kind: api.Bytes},
				{ID: 7, Name: "a", Rep: api.Repeated, Kind: api.Double},
			}},
			{ID: 5, Name: "e", Rep: api.Required, Kind: api.Bool},
		}},
		api.Node{ID: 6, Name: "f", Rep: api.Repeated, Kind: api.Long},
	)
}

// anySchema: right, with nodes of all kinds, now and then as many or as deep as can be.
func anySchema(r *rand.Rand) api.Node {
	left := 1 + r.Intn(api.MaxNodes-1)
	ids := r.Perm(api.MaxID)
	var nodes func(deep int) []api.Node
	nodes = func(deep int) []api.Node {
		var l []api.Node
		for left > 0 && (len(l) == 0 || r.Intn(4) > 0) {
			left--
			n := api.Node{ID: ids[left] + 1, Name: anyName(r, l), Rep: 1 + r.Intn(3), Kind: 1 + r.Intn(5)}
			if left > 0 && deep < api.MaxDeep && r.Intn(2) == 0 {
				n.Kind, n.Sub = api.Group, nodes(deep+1)
			}
			l = append(l, n)
		}
		return l
	}
	return rootOf(nodes(2)...)
}

func anyName(r *rand.Rand, beside []api.Node) string {
	for {
		b := make([]byte, 1+r.Intn(api.MaxName))
		for i := range b {
			b[i] = 'a' + byte(r.Intn(26))
		}
		if r.Intn(4) == 0 {
			b = []byte([]string{"root", "group", "int", "required", "a", "b"}[r.Intn(6)])
		}
		if !slices.ContainsFunc(beside, func(n api.Node) bool { return n.Name == string(b) }) {
			return string(b)
		}
	}
}

// all nodes with how deep they stand, and the place of the node around each (-1: none).
type stands struct {
	n            api.Node
	deep, around int
}

func all(root api.Node) []stands {
	l := []stands{{root, 1, -1}}
	for i := 0; i < len(l); i++ {
		for _, in := range l[i].n.Sub {
			l = append(l, stands{in, l[i].deep + 1, i})
		}
	}
	return l
}

// errorOf a root by the chapter's words, in one list of all nodes.
func errorOf(root api.Node) error {
	l := all(root)
	for _, x := range l {
		if len(l) > 40 || x.deep > 6 {
			return api.ErrBound
		}
	}
	if root.ID != 0 || root.Name != "root" || root.Rep != api.Required || root.Kind != api.Group {
		return api.ErrShape
	}
	for _, x := range l {
		if !strings.Contains("123", string(rune('0'+x.n.Rep))) || !strings.Contains("012345", string(rune('0'+x.n.Kind))) || (x.n.Kind == api.Group) != (len(x.n.Sub) != 0) {
			return api.ErrShape
		}
	}
	type place struct {
		around int
		name   string
	}
	names, ids := map[place]int{}, map[int]int{}
	for _, x := range l[1:] {
		names[place{x.around, x.n.Name}]++
		ids[x.n.ID]++
		if x.n.ID < 1 || x.n.ID > 1000 || strings.Trim(x.n.Name, "abcdefghijklmnopqrstuvwxyz") != "" || len(x.n.Name) == 0 || len(x.n.Name) > 12 {
			return api.ErrName
		}
	}
	if len(names) != len(l)-1 || len(ids) != len(l)-1 {
		return api.ErrName
	}
	return nil
}

// spoil one node by one thing, which may leave it right.
func spoil(r *rand.Rand, root api.Node) api.Node {
	l := all(root)
	id := l[r.Intn(len(l))].n.ID
	other := l[r.Intn(len(l))].n
	return with(root, id, func(n *api.Node) {
		switch r.Intn(10) {
		case 0:
			n.Rep = r.Intn(6) - 1
		case 1:
			n.Kind = r.Intn(9) - 1
		case 2:
			n.Name = []string{"", "A", "a b", "é", "thirteenlette", "twelveletter", "a1", "root", "a\n", "Root"}[r.Intn(10)]
		case 3:
			n.Name = other.Name
		case 4:
			n.ID = other.ID
		case 5:
			n.ID = []int{0, -1, 1, 1000, 1001, math.MaxInt, math.MinInt}[r.Intn(7)]
		case 6:
			n.Sub = nil
		case 7:
			n.Sub = append(n.Sub, leaf(1+r.Intn(1000), "new"))
		case 8:
			n.Sub = append(n.Sub, other)
		case 9:
			n.Sub = append(n.Sub, leavesFrom(500, 45-len(l))...)
		}
	})
}

func TestP40Right(t *testing.T) {
	names := rootOf(leaf(1, "twelveletter"), leaf(1000, "az"), group(3, "root", leaf(4, "az"), leaf(5, "root"), group(6, "group", leaf(7, "twelveletter"))))
	for name, root := range map[string]api.Node{
		"one leaf":         rootOf(leaf(1, "a")),
		"small":            small(),
		"names and IDs":    names,
		"40 nodes":         rootOf(leavesFrom(1, 39)...),
		"40 nodes, nested": rootOf(append(leavesFrom(1, 20), group(50, "g", leavesFrom(60, 18)...))...),
		"6 deep":           nested(4),
	} {
		if err := schema.Valid(root); err != nil {
			t.Errorf("%s: %v", name, err)
		}
	}
	for rep := api.Required; rep <= api.Repeated; rep++ {
		for kind := api.Group; kind <= api.Double; kind++ {
			n := api.Node{ID: 1, Name: "a", Rep: rep, Kind: kind}
			if kind == api.Group {
				n.Sub = []api.Node{leaf(2, "b")}
			}
			if err := schema.Valid(rootOf(n)); err != nil {
				t.Errorf("rep %d, kind %d: %v", rep, kind, err)
			}
		}
	}
}

// wrong schemas, each by one thing.
func wrong() map[string]struct {
	root api.Node
	err  error
} {
	type case1 = struct {
		root api.Node
		err  error
	}
	m := map[string]case1{
		"41 nodes":                {rootOf(leavesFrom(1, 40)...), api.ErrBound},
		"41 nodes, nested":        {rootOf(append(leavesFrom(1, 20), group(50, "g", leavesFrom(60, 19)...))...), api.ErrBound},
		"7 deep":                  {nested(5), api.ErrBound},
		"100 deep":                {nested(100), api.ErrBound},
		"7 deep in a leaf":        {with(nested(4), 5, func(n *api.Node) { n.Sub = leavesFrom(6, 1) }), api.ErrBound},
		"nothing":                 {api.Node{}, api.ErrShape},
		"a root without nodes":    {rootOf(), api.ErrShape},
		"a root with an ID":       {with(small(), 0, func(n *api.Node) { n.ID = 8 }), api.ErrShape},
		"a root by another name":  {with(small(), 0, func(n *api.Node) { n.Name = "rood" }), api.ErrShape},
		"a root without name":     {with(small(), 0, func(n *api.Node) { n.Name = "" }), api.ErrShape},
		"an optional root":        {with(small(), 0, func(n *api.Node) { n.Rep = api.Optional }), api.ErrShape},
		"a repeated root":         {with(small(), 0, func(n *api.Node) { n.Rep = api.Repeated }), api.ErrShape},
		"a root that is a leaf":   {api.Node{Name: "root", Rep: api.Required, Kind: api.Int}, api.ErrShape},
		"a leaf with nodes, root": {with(small(), 0, func(n *api.Node) { n.Kind = api.Int }), api.ErrShape},
		"a leaf with nodes":       {with(small(), 4, func(n *api.Node) { n.Sub = leavesFrom(8, 1) }), api.ErrShape},
		"a group without nodes":   {with(small(), 3, func(n *api.Node) { n.Sub = nil }), api.ErrShape},
		"a group, nodes empty":    {with(small(), 3, func(n *api.Node) { n.Sub = []api.Node{} }), api.ErrShape},
		"the name of one ahead":   {with(small(), 6, func(n *api.Node) { n.Name = "a" }), api.ErrName},
		"... next to it":          {with(small(), 2, func(n *api.Node) { n.Name = "a" }), api.ErrName},
		"... deeper":              {with(small(), 7, func(n *api.Node) { n.Name = "d" }), api.ErrName},
		"the ID of one ahead":     {with(small(), 6, func(n *api.Node) { n.ID = 1 }), api.ErrName},
		"... of one deeper":       {with(small(), 6, func(n *api.Node) { n.ID = 4 }), api.ErrName},
		"... of the one around":   {with(small(), 4, func(n *api.Node) { n.ID = 3 }), api.ErrName},
	}
	for _, x := range all(small())[1:] {
		for _, name := range []string{"", "A", "aB", "Ab", "a b", " a", "a ", "a1", "1", "#", "a#", "`", "{", "é", "\xff", "\x00", "a\n", "thirteenlette", strings.Repeat("x", 10000)} {
			m[fmt.Sprintf("name %q of %d", name, x.n.ID)] = case1{with(small(), x.n.ID, func(n *api.Node) { n.Name = name }), api.ErrName}
		}
		for _, no := range []int{0, -1, 1001, 1002, math.MaxInt, math.MinInt, 1 << 32, 1<<32 + 1} {
			m[fmt.Sprintf("ID %d of %d", no, x.n.ID)] = case1{with(small(), x.n.ID, func(n *api.Node) { n.ID = no }), api.ErrName}
		}
		for _, no := range []int{0, -1, 4, 5, math.MaxInt, math.MinInt, 1<<32 + 1} {
			m[fmt.Sprintf("rep %d of %d", no, x.n.ID)] = case1{with(small(), x.n.ID, func(n *api.Node) { n.Rep = no }), api.ErrShape}
		}
		for _, no := range []int{-1, 6, 7, math.MaxInt, math.MinInt, 1 << 32} {
			m[fmt.Sprintf("kind %d of %d", no, x.n.ID)] = case1{with(small(), x.n.ID, func(n *api.Node) { n.Kind = no }), api.ErrShape}
		}
	}
	return m
}

func TestP40Wrong(t *testing.T) {
	for name, c := range wrong() {
		if err := schema.Valid(c.root); err != c.err {
			t.Errorf("%s: %v, not %v", name, err, c.err)
		}
	}
}

// Each error for all nodes ahead of the next one: wherever they stand.
func TestP40Order(t *testing.T) {
	badShape := func(id int) func(api.Node) api.Node {
		return func(root api.Node) api.Node { return with(root, id, func(n *api.Node) { n.Rep = 0 }) }
	}
	badName := func(id int) func(api.Node) api.Node {
		return func(root api.Node) api.Node { return with(root, id, func(n *api.Node) { n.Name = "B" }) }
	}
	tooMany := func(id int) func(api.Node) api.Node {
		return func(root api.Node) api.Node {
			return with(root, id, func(n *api.Node) { n.Sub = append(n.Sub, leavesFrom(100, 40)...) })
		}
	}
	for _, first := range []int{0, 1, 2, 4, 6} {
		for _, last := range []int{0, 1, 2, 4, 6} {
			if last > 0 {
				if err := schema.Valid(badName(last)(badShape(first)(small()))); err != api.ErrShape {
					t.Errorf("shape of %d, name of %d: %v", first, last, err)
				}
				if err := schema.Valid(tooMany(first)(badName(last)(small()))); err != api.ErrBound {
					t.Errorf("bound at %d, name of %d: %v", first, last, err)
				}
			}
			if err := schema.Valid(tooMany(first)(badShape(last)(small()))); err != api.ErrBound {
				t.Errorf("bound at %d, shape of %d: %v", first, last, err)
			}
		}
	}
}

func TestP40ByTheRule(t *testing.T) {
	r := rand.New(rand.NewSource(40))
	told := map[error]int{}
	for range 20000 {
		root := anySchema(r)
		for range r.Intn(4) {
			root = spoil(r, root)
		}
		want := errorOf(root)
		told[want]++
		if err := schema.Valid(root); err != want {
			t.Fatalf("%+v: %v, not %v", root, err, want)
		}
	}
	for _, err := range []error{nil, api.ErrBound, api.ErrShape, api.ErrName} {
		if told[err] < 100 {
			t.Errorf("%v came %d times", err, told[err])
		}
	}
}

// calls of all functions that take a schema: their answers, and the error.
func calls() map[string]func(root api.Node) (any, error) {
	return map[string]func(root api.Node) (any, error){
		"Text":    func(root api.Node) (any, error) { return schema.Text(root) },
		"Leaves":  func(root api.Node) (any, error) { return schema.Leaves(root) },
		"Find":    func(root api.Node) (any, error) { return schema.Find(root, 0) },
		"Find 4":  func(root api.Node) (any, error) { return schema.Find(root, 4) },
		"Find -1": func(root api.Node) (any, error) { return schema.Find(root, -1) },
		"Under":   func(root api.Node) (any, error) { return schema.Under(root, 2) },
		"Under 9": func(root api.Node) (any, error) { return schema.Under(root, 9999) },
		"Project": func(root api.Node) (any, error) { return schema.Project(root, []int{4}) },
		"Project no such": func(root api.Node) (any, error) {
			return schema.Project(root, []int{-1})
		},
		"Project nothing": func(root api.Node) (any, error) { return schema.Project(root, nil) },
	}
}

// isNothing: the zero value, or an empty list.
func isNothing(x any) bool {
	v := reflect.ValueOf(x)
	return v.IsZero() || v.Kind() == reflect.Slice && v.Len() == 0
}

func TestP40ErrorsOfAllCalls(t *testing.T) {
	for name, c := range wrong() {
		for call, f := range calls() {
			if got, err := f(c.root); err != c.err || !isNothing(got) {
				t.Errorf("%s of %s: %v, %v, not %v", call, name, got, err, c.err)
			}
		}
	}
}

// Lists that are shared make more nodes than could be gone through.
func TestP1ManyNodes(t *testing.T) {
	shared := leaf(1, "a")
	for range 200 {
		shared = group(1, "a", shared, shared, shared)
	}
	round := make([]api.Node, 2)
	round[0], round[1] = group(1, "a", round...), group(2, "b")
	round[1].Sub = round
	flat := make([]api.Node, 300000)
	for name, root := range map[string]api.Node{"shared": rootOf(shared), "shared, bare": shared, "round": rootOf(round...), "flat": rootOf(flat...), "deep": nested(100000)} {
		if err := schema.Valid(root); err != api.ErrBound {
			t.Errorf("%s: %v", name, err)
		}
		for call, f := range calls() {
			if _, err := f(root); err != api.ErrBound {
				t.Errorf("%s of %s: %v", call, name, err)
			}
		}
	}
}

// roomy: the same schema, in lists behind whose length something stands.
func roomy(n api.Node) api.Node {
	if n.Sub != nil {
		l := make([]api.Node, len(n.Sub), len(n.Sub)+3)
		for i, in := range n.Sub {
			l[i] = roomy(in)
		}
		for i := len(l); i < cap(l); i++ {
			l[:cap(l)][i] = api.Node{ID: 77, Name: "behind", Rep: 9, Kind: 9}
		}
		n.Sub = l
	}
	return n
}

// seen: all of it, with what stands behind the lists' lengths.
func seen(n api.Node) []api.Node {
	l := []api.Node{{ID: n.ID, Name: n.Name, Rep: n.Rep, Kind: n.Kind}}
	for _, in := range n.Sub[:cap(n.Sub)] {
		l = append(l, seen(in)...)
	}
	return l
}

func TestP4OnlyRead(t *testing.T) {
	r := rand.New(rand.NewSource(4))
	for range 300 {
		plain := anySchema(r)
		l := all(plain)
		ids := make([]int, 1+r.Intn(3), 6)
		for i := range ids {
			ids[i] = l[r.Intn(len(l))].n.ID
		}
		ids[:cap(ids)][5] = -5
		root := roomy(plain)
		before, idsBefore := seen(root), slices.Clone(ids[:cap(ids)])
		for range 2 {
			found, _ := schema.Find(root, ids[0])
			projected, err := schema.Project(root, ids)
			leaves, bad := schema.Leaves(root)
			under, none := schema.Under(root, ids[0])
			if err != nil || bad != nil || none != nil || schema.Valid(root) != nil {
				t.Fatal(err, bad, none)
			}
			// Whatever is done to the answers, nobody else sees it.
			for _, n := range []api.Node{found, projected} {
				ruin(n)
			}
			for i := range leaves {
				leaves[i].Path = append(leaves[i].Path, 5)
				leaves[i].Path[0] = -1
				for _, other := range leaves[i+1:] {
					if other.Path[0] == -1 {
						t.Fatal("two paths share memory")
					}
				}
			}
			clear(under)
		}
		if !reflect.DeepEqual(seen(root), before) || !slices.Equal(ids[:cap(ids)], idsBefore) {
			t.Fatal("what is handed over was changed")
		}
		text, err := schema.Text(root)
		want, bad := schema.Text(plain)
		if text != want || err != nil || bad != nil {
			t.Fatal(text, err, bad)
		}
	}
}

func ruin(n api.Node) {
	for i := range n.Sub[:cap(n.Sub)] {
		ruin(n.Sub[:cap(n.Sub)][i])
		n.Sub[:cap(n.Sub)][i] = api.Node{ID: -9, Name: "ruined"}
	}
}
