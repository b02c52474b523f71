package pred_test

import (
	"math"
	"math/rand"
	"reflect"
	"strings"
	"testing"

	"shredcol/api"
	"shredcol/pred"
)

func TestP141TextKnown(t *testing.T) {
	a, b, c, d := term(1, "=", whole(1)), term(1, "=", whole(2)), term(1, "=", whole(3)), null(4)
	for want, p := range map[string]pred.Pred{
		"#1 = 1":                                    term(1, "=", whole(1)),
		"#12 <= -2147483648":                        term(12, "<=", whole(math.MinInt32)),
		"#1000 != -9223372036854775808":             term(1000, "!=", long(math.MinInt64)),
		"#5 > false":                                term(5, ">", truth(0)),
		"#6 >= xbff0000000000000":                   term(6, ">=", double(-1)),
		`#4 < "\22a) & (\5c\ff"`:                    term(4, "<", text("\"a) & (\\\xff")),
		`#4 < ""`:                                   term(4, "<", text("")),
		"#4 is null":                                d,
		"!#4 is null":                               not(d),
		"!!#1 = 1":                                  not(not(a)),
		"#1 = 1 & #1 = 2":                           and(a, b),
		"#1 = 1 & #1 = 2 & #1 = 3":                  and(and(a, b), c),
		"#1 = 1 & (#1 = 2 & #1 = 3)":                and(a, and(b, c)),
		"#1 = 1 | #1 = 2 | #1 = 3":                  or(or(a, b), c),
		"#1 = 1 | (#1 = 2 | #1 = 3)":                or(a, or(b, c)),
		"#1 = 1 | #1 = 2 & #1 = 3":                  or(a, and(b, c)),
		"#1 = 1 & #1 = 2 | #1 = 3":                  or(and(a, b), c),
		"(#1 = 1 | #1 = 2) & #1 = 3":                and(or(a, b), c),
		"#1 = 1 & (#1 = 2 | #1 = 3)":                and(a, or(b, c)),
		"!(#1 = 1 & #1 = 2)":                        not(and(a, b)),
		"!(#1 = 1 | #1 = 2)":                        not(or(a, b)),
		"!#1 = 1 & !#1 = 2":                         and(not(a), not(b)),
		"!(!(#1 = 1 | #1 = 2) & #1 = 3)":            not(and(not(or(a, b)), c)),
		"#1 = 1 & #1 = 2 | #1 = 3 & #4 is null":     or(and(a, b), and(c, d)),
		"(#1 = 1 | #1 = 2) & (#1 = 3 | #4 is null)": and(or(a, b), or(c, d)),
		"#1 = 1 & #1 = 2 & (#1 = 3 & #4 is null)":   and(and(a, b), and(c, d)),
		"#1 = 1 | #1 = 2 | (#1 = 3 | #4 is null)":   or(or(a, b), or(c, d)),
		"!!!!!!#1 = 1":                              not(not(not(not(not(not(a)))))),
		"!!!!!(#1 = 1 & #1 = 2)":                    not(not(not(not(not(and(a, b)))))),
		"!!!!!(#1 = 1 | #1 = 2)":                    not(not(not(not(not(or(a, b)))))),
		"!!!!!!#1 = 1 & !!!!!!#1 = 2":               and(not(not(not(not(not(not(a)))))), not(not(not(not(not(not(b))))))),
		"#1 = 1 & !!!!!(#1 = 2 & #1 = 3)":           and(a, not(not(not(not(not(and(b, c))))))),
	} {
		if s, err := pred.Text(small(), p); s != want || err != nil {
			t.Errorf("%s, %v, not %s", s, err, want)
		}
	}
}

// wrongPreds that have no text of small's leaves.
func wrongPreds() []pred.Pred {
	a := term(1, "=", whole(1))
	l := []pred.Pred{
		{}, {Op: "Term", ID: 1, How: "=", V: whole(1)}, {Op: "terms", ID: 1, How: "=", V: whole(1)}, {Op: "&", L: []pred.Pred{a, a}}, {Op: "xor", L: []pred.Pred{a, a}}, {ID: 1, How: "=", V: whole(1)}, {L: []pred.Pred{a}}, {Op: "\x00"},
		// Terms: the leaf, how, and the value.
		term(0, "=", whole(1)), term(2, "=", whole(1)), term(3, "=", whole(1)), term(7, "=", whole(1)), term(-1, "=", whole(1)), term(1001, "=", whole(1)), term(math.MaxInt, "=", whole(1)), term(math.MinInt, "=", whole(1)),
		term(1, "", whole(1)), term(1, "==", whole(1)), term(1, "is", whole(1)), term(1, "is null", whole(1)), term(1, " =", whole(1)), term(1, "= ", whole(1)), term(1, "<>", whole(1)),
		term(1, "=", api.Value{}), term(1, "=", long(1)), term(1, "=", text("1")), term(1, "=", truth(1)), term(1, "=", double(1)), term(4, "=", whole(1)), term(5, "=", whole(1)), term(6, "=", long(1)), term(1000, "=", whole(1)),
		term(1, "=", whole(math.MaxInt32+1)), term(1, "=", whole(math.MinInt32-1)), term(5, "=", truth(2)), term(5, "=", truth(-1)), term(1, "=", api.Value{Kind: api.Int, N: 1, S: "x"}), term(4, "=", api.Value{Kind: api.Bytes, N: 1}), term(4, "=", text(strings.Repeat("x", 101))),
		{Op: "term", ID: 1, How: "=", V: whole(1), L: []pred.Pred{a}}, {Op: "term", ID: 1}, {Op: "term"},
		// Null.
		null(0), null(2), null(7), null(-1), null(1001), {Op: "null", ID: 1, How: "="}, {Op: "null", ID: 1, V: whole(0)}, {Op: "null", ID: 1, V: whole(1)}, {Op: "null", ID: 1, L: []pred.Pred{a}},
		// What stands in others, and how many of it.
		{Op: "not"}, {Op: "not", L: []pred.Pred{a, a}}, {Op: "not", ID: 1, L: []pred.Pred{a}}, {Op: "not", How: "=", L: []pred.Pred{a}}, {Op: "not", V: whole(0), L: []pred.Pred{a}}, not(pred.Pred{}),
	}
	for _, op := range []string{"and", "or"} {
		l = append(l, pred.Pred{Op: op}, pred.Pred{Op: op, L: []pred.Pred{a}}, pred.Pred{Op: op, L: []pred.Pred{a, a, a}}, pred.Pred{Op: op, ID: 1, L: []pred.Pred{a, a}}, pred.Pred{Op: op, ID: -1, L: []pred.Pred{a, a}},
			pred.Pred{Op: op, How: "=", L: []pred.Pred{a, a}}, pred.Pred{Op: op, V: whole(0), L: []pred.Pred{a, a}}, pred.Pred{Op: op, L: []pred.Pred{a, {}}}, pred.Pred{Op: op, L: []pred.Pred{{}, a}}, pred.Pred{Op: op, L: []pred.Pred{a, not(null(7))}})
	}
	// Too deep, by `!` and brackets.
	deep := not(not(not(not(not(not(a))))))
	both := not(not(not(not(not(not(and(a, a)))))))
	right := a
	for range 8 {
		right = or(a, right)
	}
	return append(l, not(deep), both, right, and(a, or(a, deep)), or(deep, or(a, deep)), and(deep, not(deep)))
}

func TestP141TextErrors(t *testing.T) {
	for i, p := range wrongPreds() {
		if s, err := pred.Text(small(), p); s != "" || err != api.ErrShape {
			t.Errorf("%d, %+v: %q, %v", i, p, s, err)
		}
	}
}

// TestP141TextBound: no text is longer than what is read.
func TestP141TextBound(t *testing.T) {
	exact, err := pred.Read(small(), ofLength(api.MaxText))
	if err != nil {
		t.Fatal(err)
	}
	if s, err := pred.Text(small(), exact); s != ofLength(api.MaxText) || err != nil {
		t.Error(len(s), err)
	}
	longer := or(exact.L[0], term(4, "=", text(exact.L[1].V.S+"x")))
	if s, err := pred.Text(small(), longer); s != "" || err != api.ErrShape {
		t.Error(len(s), err)
	}
}

// brackets of a text: where each opens and shuts, those in a value aside.
func brackets(s string) (pairs [][2]int) {
	var open []int
	inValue := false
	for i := range len(s) {
		switch {
		case s[i] == '"':
			inValue = !inValue
		case inValue:
		case s[i] == '(':
			open = append(open, i)
		case s[i] == ')':
			pairs = append(pairs, [2]int{open[len(open)-1], i})
			open = open[:len(open)-1]
		}
	}
	return pairs
}

// TestP144WrittenIsRead, with brackets just where it would be another one without; and
// there is no text just where it would be too deep.
func TestP144WrittenIsRead(t *testing.T) {
	r := rand.New(rand.NewSource(144))
	pairs, tooDeep := 0, 0
	for range 20000 {
		root := small()
		if r.Intn(3) == 0 {
			root = anySchema(r, 1+r.Intn(10))
		}
		p := anyPred(r, root, 1+r.Intn(9))
		want, deep := spelt(p, never)
		s, err := pred.Text(root, p)
		if deep > api.MaxDeep {
			if s != "" || err != api.ErrShape {
				t.Fatalf("%s: %s, %v", want, s, err)
			}
			tooDeep++
			continue
		}
		if s != want || err != nil {
			t.Fatalf("%s, %v, not %s", s, err, want)
		}
		if again, err := pred.Read(root, s); !reflect.DeepEqual(again, p) || err != nil {
			t.Fatalf("%s: %+v, %v", s, again, err)
		}
		for _, pair := range brackets(s) {
			bare := s[:pair[0]] + s[pair[0]+1:pair[1]] + s[pair[1]+1:]
			if q, err := pred.Read(root, bare); err == nil && reflect.DeepEqual(q, p) {
				t.Fatalf("%s: needless brackets, as by %s", s, bare)
			}
			pairs++
		}
	}
	if pairs < 10000 || tooDeep < 200 {
		t.Error(pairs, tooDeep)
	}
}

// TestP144ReadIsWritten: needless brackets alone are gone.
func TestP144ReadIsWritten(t *testing.T) {
	r := rand.New(rand.NewSource(1441))
	for range 5000 {
		p := anyPred(r, small(), 1+r.Intn(6))
		long, deep := spelt(p, func() bool { return r.Intn(6) == 0 })
		if deep > api.MaxDeep {
			continue
		}
		got, err := pred.Read(small(), long)
		s, bad := pred.Text(small(), got)
		if want, _ := spelt(p, never); s != want || err != nil || bad != nil {
			t.Fatalf("%s: %s, %v, %v", long, s, err, bad)
		}
	}
}
