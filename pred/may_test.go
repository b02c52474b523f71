package pred_test

import (
	"math"
	"math/rand"
	"slices"
	"testing"

	"shredcol/api"
	"shredcol/pred"
	"shredcol/schema"
	"shredcol/shred"
	"shredcol/stats"
)

// between: of so many entries, with values.
func between(entries, nulls int, least, greatest api.Value) stats.Stats {
	return stats.Stats{Entries: entries, Nulls: nulls, Has: true, Min: least, Max: greatest}
}

func TestP143Known(t *testing.T) {
	known := []pred.Known{
		{ID: 1, Stats: between(3, 0, whole(2), whole(4))},
		{ID: 4, Stats: between(5, 2, text("b"), text("d"))},
		{ID: 5, Stats: stats.Stats{Entries: 3, Nulls: 3}},
		{ID: 12, Stats: between(3, 0, whole(7), whole(7))},
		// Of one ID the first counts.
		{ID: 1, Stats: stats.Stats{Entries: 3, Nulls: 3}},
		{ID: 4, Stats: between(3, 0, text("x"), text("y"))},
	}
	for s, want := range map[string]bool{
		"#1 < 2": false, "#1 <= 2": true, "#1 < 3": true, "#1 = 1": false, "#1 = 2": true, "#1 = 3": true, "#1 = 5": false, "#1 != 3": true, "#1 > 4": false, "#1 >= 4": true, "#1 > 3": true, "#12 != 7": false, "#12 = 7": true,
		"#1 is null": false, "#12 is null": false, "#4 is null": true, "#5 is null": true, "#6 is null": true, "#1000 is null": true,
		`#4 = "a"`: false, `#4 = "c"`: true, `#4 = "x"`: false, `#4 > "d"`: false, `#4 < "b"`: false,
		"#5 = true": false, "#5 = false": false, "#5 != true": false, "#1000 = 5": true, "#6 < x0000000000000000": true,
		// And, or.
		"#1 < 2 & #1000 = 5": false, "#1000 = 5 & #1 < 2": false, "#1 < 2 | #1000 = 5": true, "#1000 = 5 | #1 < 2": true, "#1 < 2 | #1 > 4": false, "#1 = 2 & #1 = 4": true, "#1 < 2 | #5 = true | #1 is null": false,
		"#1 < 2 | #5 = true & #1000 = 5": false, "(#1 < 2 | #5 = true) & #1000 = 5": false, "(#1 < 2 | #1000 = 5) & #1 = 3": true, "#1 = 3 & (#1 = 4 & (#1 = 2 & #1 = 9))": false, "#1 = 3 | #1 = 9": true,
		// Not, where a record has to satisfy what stands in it.
		"!#1 < 2": true, "!#1 = 3": true, "!#4 is null": true, "!#5 is null": false, "!#5 = true": true, "!#1000 = 5": true, "!#1000 is null": true, "!#1 is null": true, "!#12 is null": true,
		"!#1 > 1": false, "!#1 >= 2": false, "!#1 <= 4": false, "!#1 < 5": false, "!#1 != 5": false, "!#12 = 7": false, "!#12 != 7": true, "!#1 > 2": true, "!#1 < 4": true, "!#1 != 3": true,
		`!#4 > "a"`: true, `!#4 < "x"`: true, // a record may have no value
		"!!#1 < 2": false, "!!#1 = 3": true, "!!!#1 > 1": false, "!(#1 > 1 & #12 = 7)": false, "!(#1 > 1 & #1000 = 5)": true, "!(#1 > 1 | #1000 = 5)": false, "!(#1 < 2 | #5 = true)": true, "!(#1 < 2 | #12 = 7)": false, "!(#1 < 2 & #12 = 7)": true,
	} {
		if may := pred.May(predOf(small(), s), known, 3); may != want {
			t.Errorf("%s: %v", s, may)
		}
		if want && !pred.May(predOf(small(), s), nil, 3) {
			t.Errorf("%s: nothing is known", s)
		}
	}
}

// TestP143Unknown: what is known of other leaves, or of values of another kind, rules nothing out.
func TestP143Unknown(t *testing.T) {
	ofLong := between(3, 0, long(2), long(4))
	for _, p := range []pred.Pred{term(1, "=", whole(9)), not(term(1, "<", whole(9))), term(1, "?", long(9)), not(term(1, "?", long(3))), not(term(1, "", long(3))), term(1, "=", api.Value{}), {}, {Op: "xor", ID: 1}, {Op: "not"}, {Op: "and"}, not(pred.Pred{}), not(pred.Pred{Op: "or"})} {
		if !pred.May(p, []pred.Known{{ID: 1, Stats: ofLong}}, 3) {
			t.Errorf("%+v", p)
		}
		if !pred.May(p, []pred.Known{{ID: 2, Stats: stats.Stats{}}, {ID: 0}, {ID: -1}}, 3) {
			t.Errorf("%+v, of others", p)
		}
	}
	for _, records := range []int{0, -1, math.MinInt} {
		if pred.May(null(1), nil, records) {
			t.Errorf("%d records", records)
		}
	}
	for _, records := range []int{1, math.MaxInt} {
		if !pred.May(null(1), nil, records) || pred.May(term(1, "=", long(9)), []pred.Known{{ID: 1, Stats: ofLong}}, records) {
			t.Errorf("%d records", records)
		}
	}
}

// ruledOut at least, by the words of P143.
func ruledOut(p pred.Pred, known []pred.Known) bool {
	i := slices.IndexFunc(known, func(k pred.Known) bool { return k.ID == p.ID })
	switch p.Op {
	case "term":
		if i < 0 {
			return false
		}
		may, err := stats.May(known[i].Stats, p.How, p.V)
		return !may && err == nil
	case "null":
		return i >= 0 && known[i].Stats.Nulls == 0
	case "and":
		return ruledOut(p.L[0], known) || ruledOut(p.L[1], known)
	case "or":
		return ruledOut(p.L[0], known) && ruledOut(p.L[1], known)
	}
	return false
}

func knownOf(t *testing.T, leaf schema.Leaf, c api.Column) pred.Known {
	t.Helper()
	s, err := stats.Of(leaf, c)
	if err != nil {
		t.Fatal(err)
	}
	return pred.Known{ID: leaf.ID, Stats: s}
}

// TestP144MayWhereSomeDo: where May is false no record satisfies it; and it is false where the words say so.
func TestP144MayWhereSomeDo(t *testing.T) {
	r := rand.New(rand.NewSource(143))
	asSaid, open, beyond := 0, 0, 0
	for range 5000 {
		root := anySchema(r, 1+r.Intn(6))
		var l []api.Datum
		for range 1 + r.Intn(3) {
			l = append(l, anyDatum(r, root))
		}
		cols, err := shred.Shred(root, l)
		if err != nil {
			t.Fatal(err)
		}
		var known []pred.Known
		for i, leaf := range leavesOf(root) {
			if r.Intn(5) > 0 {
				known = append(known, knownOf(t, leaf, cols[i]))
			}
		}
		r.Shuffle(len(known), func(i, j int) { known[i], known[j] = known[j], known[i] })
		for range 6 {
			p := anyPred(r, root, 1+r.Intn(4))
			some := false
			for _, d := range l {
				values := map[int][]api.Value{}
				valuesIn(root, d, values)
				some = some || satisfies(p, values)
			}
			may := pred.May(p, known, len(l))
			if some && !may || may && ruledOut(p, known) {
				t.Fatalf("%+v of %+v, %+v: %v, %v", p, l, known, may, some)
			}
			switch {
			case !may && ruledOut(p, known):
				asSaid++
			case !may:
				beyond++
			case !some:
				open++
			}
		}
	}
	if asSaid < 3000 || beyond < 1000 || open < 1000 {
		t.Error(asSaid, beyond, open)
	}
}

// TestP1Endless: however many, however deep, every call ends.
func TestP1Endless(t *testing.T) {
	wrap := map[string]func(p pred.Pred) pred.Pred{
		"not":   not,
		"and":   func(p pred.Pred) pred.Pred { return and(p, p) },
		"or":    func(p pred.Pred) pred.Pred { return or(p, p) },
		"left":  func(p pred.Pred) pred.Pred { return and(p, null(1)) },
		"right": func(p pred.Pred) pred.Pred { return or(null(12), p) },
		"mixed": func(p pred.Pred) pred.Pred { return not(or(not(p), and(p, not(p)))) },
		"wide":  func(p pred.Pred) pred.Pred { return pred.Pred{Op: "or", L: slices.Repeat([]pred.Pred{p}, 9)} },
	}
	d := recordOf(small(), `{a:0,b:null,g:null,h:[]}`)
	known := []pred.Known{{ID: 1, Stats: between(1, 0, whole(0), whole(0))}}
	for name, around := range wrap {
		p := term(1, "=", whole(1))
		for range 200_000 {
			p = around(p)
		}
		if s, err := pred.Text(small(), p); s != "" || err != api.ErrShape {
			t.Errorf("%s: %.20q, %v", name, s, err)
		}
		if is, err := pred.Eval(small(), p, d); is || err != api.ErrShape {
			t.Errorf("%s: %v, %v", name, is, err)
		}
		pred.Leaves(p)
		pred.May(p, known, 1)
		pred.May(p, nil, 1)
	}
	// Not too deep, but of far too many terms: chains whose links are chains.
	link := term(1, "=", whole(1))
	for range api.MaxDeep {
		chain := link
		for range 300 {
			chain = and(chain, link)
		}
		link = chain
	}
	if s, err := pred.Text(small(), link); s != "" || err != api.ErrShape {
		t.Errorf("%.20q, %v", s, err)
	}
	pred.May(not(link), known, 1)
	// A predicate that has a text is looked at whole, however many terms it has.
	if pred.May(predOf(small(), ofLength(api.MaxText)), append(known, pred.Known{ID: 4, Stats: stats.Stats{Entries: 1, Nulls: 1}}), 1) {
		t.Error("all of its terms are ruled out")
	}
	many := make([]pred.Known, 1<<18)
	for i := range many {
		many[i].ID = i
	}
	if pred.May(null(1), many, 1) || len(pred.Leaves(pred.Pred{Op: "or", L: make([]pred.Pred, 1<<18)})) != 0 {
		t.Error("of many")
	}
}

// TestP1WhateverIsGiven: Preds of any fields make no call panic, and have no text or are read again.
func TestP1WhateverIsGiven(t *testing.T) {
	r := rand.New(rand.NewSource(1))
	var anything func(deep int) pred.Pred
	anything = func(deep int) pred.Pred {
		p := pred.Pred{Op: []string{"term", "null", "not", "and", "or", "", "xor"}[r.Intn(7)], ID: []int{0, 1, 4, 5, -1, 2, math.MaxInt}[r.Intn(7)]}
		if r.Intn(3) > 0 {
			p.ID = 0
		}
		if p.Op == "term" || r.Intn(9) == 0 {
			p.ID, p.How, p.V = r.Intn(7), append(hows, "", "?")[r.Intn(8)], anyValue(r, r.Intn(7))
		}
		if deep > 0 && p.Op != "term" {
			for range r.Intn(4) {
				p.L = append(p.L, anything(deep-1))
			}
		}
		return p
	}
	d := recordOf(small(), `{a:0,b:null,g:null,h:[]}`)
	texts := 0
	for range 50000 {
		p := anything(3)
		s, err := pred.Text(small(), p)
		is, bad := pred.Eval(small(), p, d)
		if err != nil {
			if s != "" || is || err != api.ErrShape || bad != err {
				t.Fatalf("%+v: %q, %v, %v, %v", p, s, err, is, bad)
			}
		} else if _, err := pred.Read(small(), s); err != nil || bad != nil {
			t.Fatalf("%s: %v, %v", s, err, bad)
		} else {
			texts++
		}
		known := []pred.Known{{ID: r.Intn(7), Stats: stats.Stats{Entries: r.Intn(3) - 1, Nulls: r.Intn(3) - 1, Has: r.Intn(2) > 0, Min: anyValue(r, r.Intn(7)), Max: anyValue(r, r.Intn(7))}}}
		pred.May(p, known, r.Intn(4)-1)
		if !slices.IsSorted(pred.Leaves(p)) {
			t.Fatalf("%+v: %v", p, pred.Leaves(p))
		}
	}
	if texts < 500 {
		t.Error(texts)
	}
	for _, root := range []api.Node{{}, {Name: "root", Rep: api.Required}, {Kind: 9, Sub: make([]api.Node, 100)}} {
		for _, s := range []string{"", "#", "#1 is null", "\xff", string(make([]byte, 1<<20))} {
			if p, err := pred.Read(root, s); !isNoPred(p) || err == nil {
				t.Errorf("%.10q: %+v, %v", s, p, err)
			}
		}
	}
	for range 20000 {
		b := make([]byte, r.Intn(12))
		for i := range b {
			b[i] = " !()#&|<=>1is\"\\x\xff"[r.Intn(17)]
		}
		_, _, is := readByTheRule(small(), string(b))
		if _, err := pred.Read(small(), string(b)); (err == nil) != is {
			t.Fatalf("%q: %v", b, err)
		}
	}
}
