package pred_test

import (
	"fmt"
	"math/rand"
	"reflect"
	"slices"
	"strings"
	"testing"

	"shredcol/api"
	"shredcol/data"
	"shredcol/pred"
)

func recordOf(root api.Node, s string) api.Datum {
	d, err := data.Read(root, s)
	if err != nil {
		panic(err)
	}
	return d
}

func predOf(root api.Node, s string) pred.Pred {
	p, err := pred.Read(root, s)
	if err != nil {
		panic(s)
	}
	return p
}

func TestP142Known(t *testing.T) {
	full := `{a:7,b:{c:[{d:null,e:true,f:[x3ff0000000000000]},{d:"x",e:false,f:[]},{d:"z",e:false,f:[x8000000000000000,x7ff8000000000000]}]},g:-1,h:[1,3]}`
	bare := `{a:0,b:null,g:null,h:[]}`
	list := `{a:0,b:{c:[]},g:0,h:[0]}`
	for record, want := range map[string]map[string]bool{
		full: {
			"#1 < 7": false, "#1 <= 7": true, "#1 = 7": true, "#1 != 7": false, "#1 > 7": false, "#1 >= 7": true, "#1 < 8": true, "#1 > 6": true, "#1 != 6": true,
			// Some value is enough, also of two that rule each other out.
			"#5 = true & #5 = false": true, "#5 != true": true, "#12 = 1 & #12 = 3": true, "#12 = 2": false, "#12 != 1": true, "#12 < 2 & #12 > 2": true, "!#12 = 2": true, "!#12 != 2": false, "#12 >= 4": false, "#12 <= 0": false,
			`#4 = "x"`: true, `#4 = "y"`: false, `#4 < "x"`: false, `#4 > "x"`: true, `#4 != "x"`: true, `#4 < "w"`: false, `!#4 < "w"`: true, `#4 = ""`: false,
			"#4 is null": false, "!#4 is null": true, "#1 is null": false, "#12 is null": false, "#6 is null": false, "#1000 is null": false,
			"#1000 = -1": true, "#1000 > -2": true,
			// By the order of all doubles: -0 is ahead of 0, and what is no number has its place.
			"#6 = x0000000000000000": false, "#6 = x8000000000000000": true, "#6 < x0000000000000000": true, "#6 > x7ff0000000000000": true, "#6 = x7ff8000000000000": true, "#6 > x7ff8000000000000": false,
			`#1 > 7 | #4 = "x"`: true, `#1 > 7 & #4 = "x"`: false, `#1 = 7 | #4 = "y" & #4 = "y"`: true, `(#1 = 7 | #4 = "y") & #4 = "y"`: false, "!(#1 = 7 & #1000 = -1)": false, "!(#1 = 7 & #1000 = 1)": true, "!!#1 = 7": true, "!#1 = 7 | #1 = 7": true, "!#1 = 7 & #1 = 7": false,
		},
		bare: {
			"#4 is null": true, "#5 is null": true, "#6 is null": true, "#1000 is null": true, "#12 is null": true, "#1 is null": false, "!#4 is null": false,
			"#12 = 0": false, "#12 != 0": false, "!#12 = 0": true, "!#12 != 0": true, "#1000 <= 0 | #1000 > 0": false, "#5 = true | #5 = false": false, "!#5 = true & !#5 = false": true, "#1 = 0 & #4 is null": true,
		},
		list: {"#4 is null": true, "#5 is null": true, "#6 is null": true, "#1000 is null": false, "#1000 = 0": true, "#12 = 0": true, "#12 is null": false},
	} {
		for s, want := range want {
			if is, err := pred.Eval(small(), predOf(small(), s), recordOf(small(), record)); is != want || err != nil {
				t.Errorf("%s of %s: %v, %v", s, record, is, err)
			}
		}
	}
}

func TestP142Errors(t *testing.T) {
	right := recordOf(small(), `{a:0,b:null,g:null,h:[]}`)
	for i, p := range wrongPreds() {
		if is, err := pred.Eval(small(), p, right); is || err != api.ErrShape {
			t.Errorf("%d, %+v: %v, %v", i, p, is, err)
		}
	}
	// A part that is none is told, also where the other one tells all.
	yes := term(1, "=", whole(0))
	for _, p := range []pred.Pred{or(yes, null(7)), or(null(7), yes), and(not(yes), null(7)), and(not(yes), pred.Pred{})} {
		if is, err := pred.Eval(small(), p, right); is || err != api.ErrShape {
			t.Errorf("%+v: %v, %v", p, is, err)
		}
	}
	kind, bound, shape := recordOf(small(), `{a:0,b:null,g:null,h:[]}`), recordOf(small(), `{a:0,b:null,g:null,h:[]}`), api.Datum{}
	kind.F[0].V = long(0)
	bound.F[3].L = slices.Repeat([]api.Datum{{V: whole(1)}}, api.MaxList+1)
	for want, d := range map[error]api.Datum{api.ErrKind: kind, api.ErrBound: bound, api.ErrShape: shape} {
		for _, p := range []pred.Pred{yes, {}, null(7)} {
			if is, err := pred.Eval(small(), p, d); is || err != want {
				t.Errorf("%+v: %v, %v, not %v", p, is, err, want)
			}
		}
	}
}

// TestP142ByTheRule, and P144: as DE MORGAN says.
func TestP142ByTheRule(t *testing.T) {
	r := rand.New(rand.NewSource(142))
	seen := map[bool]int{}
	for range 6000 {
		root := small()
		if r.Intn(2) == 0 {
			root = anySchema(r, 1+r.Intn(10))
		}
		d := anyDatum(r, root)
		values := map[int][]api.Value{}
		valuesIn(root, d, values)
		p, q := anyPred(r, root, 1+r.Intn(4)), anyPred(r, root, 1+r.Intn(4))
		eval := func(p pred.Pred) bool {
			is, err := pred.Eval(root, p, d)
			if _, deep := spelt(p, never); deep > api.MaxDeep {
				if is || err != api.ErrShape {
					t.Fatalf("%+v: %v, %v", p, is, err)
				}
				return satisfies(p, values)
			}
			if err != nil || is != satisfies(p, values) {
				t.Fatalf("%+v of %+v: %v, %v", p, d, is, err)
			}
			return is
		}
		if eval(not(and(p, q))) != eval(or(not(p), not(q))) || eval(not(or(p, q))) != eval(and(not(p), not(q))) || eval(not(not(p))) != eval(p) || eval(and(p, q)) != eval(and(q, p)) {
			t.Fatalf("%+v, %+v of %+v", p, q, d)
		}
		seen[eval(p)]++
	}
	if seen[true] < 1200 || seen[false] < 1200 {
		t.Error(seen)
	}
}

// TestP142ManyTerms: as many as have room, far on in each other.
func TestP142ManyTerms(t *testing.T) {
	s := "#1 = 0" + strings.Repeat(" | #1 = 0", 880)
	d := recordOf(small(), `{a:5,b:null,g:null,h:[]}`)
	for end, want := range map[string]bool{" | #1 = 5": true, " | #1 = 6": false, " & #1 = 5": false} {
		p := predOf(small(), s+end)
		if is, err := pred.Eval(small(), p, d); is != want || err != nil {
			t.Errorf("%s: %v, %v", end, is, err)
		}
	}
}

func TestP142Leaves(t *testing.T) {
	for s, want := range map[string][]int{
		"#1 = 1":                                       {1},
		"#1000 is null":                                {1000},
		"!#12 is null":                                 {12},
		"#5 = true | !(#1 = 7 & #5 = false)":           {1, 5},
		"#12 = 1 & #1 = 1 & #1000 = 1":                 {1, 12, 1000},
		"#1 = 1 | #1 = 2 | (#1 = 3 & #1 is null)":      {1},
		`!!!(#6 is null & #5 is null) | #4 = "#1 = 1"`: {4, 5, 6},
	} {
		if ids := pred.Leaves(predOf(small(), s)); !slices.Equal(ids, want) {
			t.Errorf("%s: %v", s, ids)
		}
	}
	for _, p := range []pred.Pred{{}, {Op: "not"}, {Op: "and", ID: 5}, {Op: "xor", ID: 5}, {ID: 5}} {
		if ids := pred.Leaves(p); len(ids) != 0 {
			t.Errorf("%+v: %v", p, ids)
		}
	}
	// Of what no schema has, too.
	if ids := pred.Leaves(or(and(null(5000), null(-3)), or(null(0), term(5000, "", api.Value{})))); !slices.Equal(ids, []int{-3, 0, 5000}) {
		t.Error(ids)
	}
}

// TestP142LeavesDeep: what stands in at most MaxNodes others is told.
func TestP142LeavesDeep(t *testing.T) {
	for _, around := range []func(p pred.Pred) pred.Pred{not, func(p pred.Pred) pred.Pred { return and(p, null(2)) }, func(p pred.Pred) pred.Pred { return or(null(2), p) }} {
		p := null(1)
		for deep := range 3 * api.MaxNodes {
			if has := slices.Contains(pred.Leaves(p), 1); has != (deep <= api.MaxNodes) {
				t.Fatalf("%d deep: %v", deep, has)
			}
			p = around(p)
		}
	}
	// A list that stands in several places counts where it is least deep.
	shared := []pred.Pred{null(1)}
	p := pred.Pred{Op: "not", L: shared}
	for range api.MaxNodes {
		p = not(p)
	}
	for _, p := range []pred.Pred{and(p, pred.Pred{Op: "not", L: shared}), and(pred.Pred{Op: "not", L: shared}, p)} {
		if ids := pred.Leaves(p); !slices.Equal(ids, []int{1}) {
			t.Error(ids)
		}
	}
}

func TestP142LeavesByTheRule(t *testing.T) {
	r := rand.New(rand.NewSource(1422))
	for range 3000 {
		root := anySchema(r, 1+r.Intn(20))
		p := anyPred(r, root, 1+r.Intn(12))
		s, _ := spelt(p, never)
		var want []int
		for _, leaf := range leavesOf(root) {
			if strings.Contains(s, fmt.Sprint("#", leaf.ID, " ")) {
				want = append(want, leaf.ID)
			}
		}
		slices.Sort(want)
		// A value may look like a term of the ID 1.
		ids := pred.Leaves(p)
		if strings.Contains(s, `"#1 = 1"`) {
			continue
		}
		if !slices.Equal(ids, want) {
			t.Fatalf("%s: %v, not %v", s, ids, want)
		}
	}
}

// TestP4OnlyRead: nothing that is handed over changes, and what is answered is nobody else's.
func TestP4OnlyRead(t *testing.T) {
	r := rand.New(rand.NewSource(4))
	for range 500 {
		root := anySchema(r, 8)
		p, d := anyPred(r, root, 5), anyDatum(r, root)
		known := []pred.Known{{ID: leavesOf(root)[0].ID}}
		before := fmt.Sprint(root, p, d, known)
		s, err := pred.Text(root, p)
		pred.Eval(root, p, d)
		pred.May(p, known, 3)
		ids := pred.Leaves(p)
		if fmt.Sprint(root, p, d, known) != before {
			t.Fatalf("%s, ahead %s", fmt.Sprint(root, p, d, known), before)
		}
		for i := range ids {
			ids[i] = -7
		}
		if err != nil {
			continue
		}
		q, _ := pred.Read(root, s)
		overwrite(&q)
		if again, err := pred.Read(root, s); err != nil || !reflect.DeepEqual(again, p) || fmt.Sprint(root, p, d, known) != before {
			t.Fatalf("%s: %+v, %v", s, again, err)
		}
	}
}

func overwrite(p *pred.Pred) {
	for i := range p.L {
		overwrite(&p.L[i])
		p.L = append(p.L, pred.Pred{Op: "more"})[:len(p.L)]
	}
	*p = pred.Pred{Op: "other", ID: 9}
}
