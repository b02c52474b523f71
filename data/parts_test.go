package data_test

import (
	"fmt"
	"math"
	"math/rand"
	"reflect"
	"slices"
	"testing"

	"shredcol/api"
	"shredcol/data"
	"shredcol/schema"
)

func TestP52Cut(t *testing.T) {
	for _, c := range []struct {
		ids  []int
		want string
		err  error
	}{
		{[]int{1}, `{a:7}`, nil},
		{[]int{2}, `{b:{c:[{d:null,e:true},{d:"x",e:false}],f:x3ff8000000000000}}`, nil},
		{[]int{3}, `{b:{c:[{d:null,e:true},{d:"x",e:false}]}}`, nil},
		{[]int{4}, `{b:{c:[{d:null},{d:"x"}]}}`, nil},
		{[]int{5}, `{b:{c:[{e:true},{e:false}]}}`, nil},
		{[]int{6}, `{b:{f:x3ff8000000000000}}`, nil},
		{[]int{7}, `{g:[-1,9223372036854775807,-9223372036854775808]}`, nil},
		{[]int{7, 6, 1}, `{a:7,b:{f:x3ff8000000000000},g:[-1,9223372036854775807,-9223372036854775808]}`, nil},
		{[]int{6, 4, 4}, `{b:{c:[{d:null},{d:"x"}],f:x3ff8000000000000}}`, nil},
		{[]int{4, 3}, `{b:{c:[{d:null,e:true},{d:"x",e:false}]}}`, nil},
		{[]int{0}, textOf(small(), smallOne()), nil},
		{[]int{7, 2, 1}, textOf(small(), smallOne()), nil},
		{nil, "", api.ErrShape},
		{[]int{}, "", api.ErrShape},
		{[]int{8}, "", api.ErrNone},
		{[]int{1, -1}, "", api.ErrNone},
		{[]int{1, 1001}, "", api.ErrNone},
		{[]int{math.MaxInt}, "", api.ErrNone},
		{[]int{math.MinInt}, "", api.ErrNone},
	} {
		d, err := data.Cut(small(), c.ids, smallOne())
		if err != c.err || err != nil && !isNothing(d) {
			t.Errorf("%v: %+v, %v, not %v", c.ids, d, err, c.err)
		}
		part, _ := schema.Project(small(), c.ids)
		if err == nil && textOf(part, d) != c.want {
			t.Errorf("%v: %s, not %s", c.ids, textOf(part, d), c.want)
		}
	}
	// What is empty or none stays so.
	for s, want := range map[string]string{
		`{a:1,b:null,g:[]}`:                                      `{b:null,g:[]}`,
		`{a:1,b:{c:[],f:x3ff8000000000000},g:[]}`:                `{b:{c:[]},g:[]}`,
		`{a:1,b:{c:[{d:null,e:true}],f:x3ff8000000000000},g:[]}`: `{b:{c:[{d:null}]},g:[]}`,
	} {
		d, err := data.Read(small(), s)
		if err != nil {
			t.Fatal(err)
		}
		got, err := data.Cut(small(), []int{4, 7}, d)
		part, _ := schema.Project(small(), []int{4, 7})
		if text, bad := data.Text(part, got); text != want || err != nil || bad != nil {
			t.Errorf("%s: %s, %v, %v, not %s", s, text, err, bad, want)
		}
	}
}

// TestP52WrongFirst: what is wrong with the record is told ahead of the IDs.
func TestP52WrongFirst(t *testing.T) {
	wrong := smallOne()
	wrong.F[2].L[1] = whole(1)
	for _, ids := range [][]int{nil, {8}, {1}, {0}} {
		if d, err := data.Cut(small(), ids, wrong); !isNothing(d) || err != api.ErrKind {
			t.Errorf("%v: %+v, %v", ids, d, err)
		}
	}
}

// anyIDs of nodes, of which the projection is not empty.
func anyIDs(r *rand.Rand, root api.Node) []int {
	var all func(n api.Node) []int
	all = func(n api.Node) []int {
		ids := []int{n.ID}
		for _, in := range n.Sub {
			ids = append(ids, all(in)...)
		}
		return ids
	}
	ids := all(root)
	if r.Intn(10) > 0 {
		ids = ids[1:]
	}
	r.Shuffle(len(ids), func(i, j int) { ids[i], ids[j] = ids[j], ids[i] })
	return ids[:1+r.Intn(min(3, len(ids)))]
}

// without the fields that go, which are taken out of the record itself.
func without(n, part api.Node, d api.Datum) api.Datum {
	if n.Rep == api.Repeated {
		n.Rep, part.Rep = api.Required, api.Required
		for i := range d.L {
			d.L[i] = without(n, part, d.L[i])
		}
		return d
	}
	for i := len(d.F) - 1; i >= 0; i-- {
		j := slices.IndexFunc(part.Sub, func(in api.Node) bool { return in.ID == n.Sub[i].ID })
		if j < 0 {
			d.F = slices.Delete(d.F, i, i+1)
			continue
		}
		d.F[i] = without(n.Sub[i], part.Sub[j], d.F[i])
	}
	return d
}

func TestP52ByTheRule(t *testing.T) {
	r := rand.New(rand.NewSource(52))
	for range 20000 {
		root, d := anyRecord(r)
		ids := anyIDs(r, root)
		part, err := schema.Project(root, ids)
		if err != nil {
			t.Fatal(err)
		}
		want := without(root, part, copied(d))
		if got, err := data.Cut(root, ids, d); fmt.Sprint(got) != fmt.Sprint(want) || err != nil {
			t.Fatalf("%+v of %+v to %v: %+v, %v, not %+v", d, root, ids, got, err, want)
		}
	}
}

func TestP53Walk(t *testing.T) {
	v := func(l ...api.Datum) (out []api.Value) {
		for _, d := range l {
			out = append(out, d.V)
		}
		return out
	}
	for id, want := range map[int][]api.Value{
		1: v(whole(7)), 4: v(text("x")), 5: v(truth(1), truth(0)), 6: v(double(1.5)), 7: v(long(-1), long(math.MaxInt64), long(math.MinInt64)),
	} {
		if l, err := data.Walk(small(), smallOne(), id); !slices.Equal(l, want) || err != nil {
			t.Errorf("%d: %v, %v, not %v", id, l, err, want)
		}
	}
	for _, id := range []int{0, 2, 3, 8, -1, 1000, 1001, math.MaxInt, math.MinInt, 1<<32 + 1} {
		if l, err := data.Walk(small(), smallOne(), id); len(l) != 0 || err != api.ErrNone {
			t.Errorf("%d: %v, %v", id, l, err)
		}
	}
	empty := fields(whole(7), none(), list())
	for _, id := range []int{4, 5, 6, 7} {
		if l, err := data.Walk(small(), empty, id); len(l) != 0 || err != nil {
			t.Errorf("%d: %v, %v", id, l, err)
		}
	}
	wrong := smallOne()
	wrong.F[2] = none()
	for _, id := range []int{-1, 1, 3, 7} {
		if l, err := data.Walk(small(), wrong, id); len(l) != 0 || err != api.ErrShape {
			t.Errorf("%d: %v, %v", id, l, err)
		}
	}
}

// valuesOf all leaves, by going through the record once.
func valuesOf(n api.Node, d api.Datum, into map[int][]api.Value) {
	if d.V.Kind != 0 {
		into[n.ID] = append(into[n.ID], d.V)
	}
	for _, e := range d.L {
		valuesOf(n, e, into)
	}
	for i, f := range d.F {
		valuesOf(n.Sub[i], f, into)
	}
}

func TestP53ByTheRule(t *testing.T) {
	r := rand.New(rand.NewSource(53))
	for range 10000 {
		root, d := anyRecord(r)
		want := map[int][]api.Value{}
		valuesOf(root, d, want)
		leaves, _ := schema.Leaves(root)
		for _, leaf := range leaves {
			if l, err := data.Walk(root, d, leaf.ID); !slices.Equal(l, want[leaf.ID]) || err != nil {
				t.Fatalf("%d of %+v of %+v: %v, %v, not %v", leaf.ID, d, root, l, err, want[leaf.ID])
			}
		}
	}
}

func TestP54CutIsRight(t *testing.T) {
	r := rand.New(rand.NewSource(55))
	for range 10000 {
		root, d := anyRecord(r)
		ids := anyIDs(r, root)
		part, _ := schema.Project(root, ids)
		cut, err := data.Cut(root, ids, d)
		if err != nil || data.Check(part, cut) != nil {
			t.Fatalf("%+v of %+v to %v: %+v, %v", d, root, ids, cut, err)
		}
		leaves, _ := schema.Leaves(part)
		for _, leaf := range leaves {
			whole, err := data.Walk(root, d, leaf.ID)
			some, bad := data.Walk(part, cut, leaf.ID)
			if !slices.Equal(whole, some) || err != nil || bad != nil {
				t.Fatalf("%d of %+v of %+v to %v: %v, %v, not %v", leaf.ID, d, root, ids, some, bad, whole)
			}
		}
		again, err := data.Cut(part, ids, cut)
		if !reflect.DeepEqual(again, cut) || err != nil {
			t.Fatalf("%+v of %+v to %v again: %+v, %v", cut, part, ids, again, err)
		}
	}
}

// TestP4SharedLists: where the lists of a record are one, those of the answer are not.
func TestP4SharedLists(t *testing.T) {
	root := schemaOf("repeated group a #1 { repeated int b #2; } repeated group c #3 { repeated int d #4; }")
	numbers := []api.Datum{whole(1), whole(2)}
	groups := list(fields(list(numbers...)), fields(list(numbers...)))
	cut, err := data.Cut(root, []int{0}, fields(groups, groups))
	if err != nil {
		t.Fatal(err)
	}
	cut.F[0].L[0].F[0].L[0].V.N = 9
	cut.F[0].L[1].F = nil
	part := fields(list(fields(list(whole(9), whole(2))), api.Datum{}), groups)
	if fmt.Sprint(cut) != fmt.Sprint(part) || numbers[0].V.N != 1 {
		t.Errorf("%+v, not %+v", cut, part)
	}
}
