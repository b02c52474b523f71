package pred_test

import (
	"math"
	"math/rand"
	"reflect"
	"strings"
	"testing"

	"shredcol/api"
	"shredcol/pred"
)

func isNoPred(p pred.Pred) bool { return reflect.DeepEqual(p, pred.Pred{}) }

func TestP140Known(t *testing.T) {
	a, b, c, d := term(1, "=", whole(1)), term(1, "=", whole(2)), term(1, "=", whole(3)), null(4)
	for s, want := range map[string]pred.Pred{
		"#1 < 5":                            term(1, "<", whole(5)),
		"#1 <= -5":                          term(1, "<=", whole(-5)),
		"#12 = 0":                           term(12, "=", whole(0)),
		"#1 != 2147483647":                  term(1, "!=", whole(math.MaxInt32)),
		"#1 > -2147483648":                  term(1, ">", whole(math.MinInt32)),
		"#1000 >= 9223372036854775807":      term(1000, ">=", long(math.MaxInt64)),
		"#1000 >= -9223372036854775808":     term(1000, ">=", long(math.MinInt64)),
		"#5 = true":                         term(5, "=", truth(1)),
		"#5 != false":                       term(5, "!=", truth(0)),
		"#6 < x3ff8000000000000":            term(6, "<", double(1.5)),
		"#6 < x8000000000000000":            term(6, "<", double(math.Copysign(0, -1))),
		`#4 = ""`:                           term(4, "=", text("")),
		`#4 = "a\22\5c\00 ) & (#1 is null"`: term(4, "=", text("a\"\\\x00 ) & (#1 is null")),
		`#4 = "` + strings.Repeat("x", 100) + `"`: term(4, "=", text(strings.Repeat("x", 100))),
		"#4 is null":                             d,
		"#1000 is null":                          null(1000),
		"!#4 is null":                            not(d),
		"!!#4 is null":                           not(not(d)),
		"!(#4 is null)":                          not(d),
		"(!#4 is null)":                          not(d),
		"!(!(#4 is null))":                       not(not(d)),
		"#1 = 1 & #1 = 2":                        and(a, b),
		"#1 = 1 & #1 = 2 & #1 = 3":               and(and(a, b), c),
		"#1 = 1 & (#1 = 2 & #1 = 3)":             and(a, and(b, c)),
		"#1 = 1 | #1 = 2 | #1 = 3":               or(or(a, b), c),
		"#1 = 1 | (#1 = 2 | #1 = 3)":             or(a, or(b, c)),
		"#1 = 1 | #1 = 2 & #1 = 3":               or(a, and(b, c)),
		"#1 = 1 & #1 = 2 | #1 = 3":               or(and(a, b), c),
		"#1 = 1 & #1 = 2 | #1 = 3 & #4 is null":  or(and(a, b), and(c, d)),
		"#1 = 1 | #1 = 2 & #1 = 3 | #4 is null":  or(or(a, and(b, c)), d),
		"(#1 = 1 | #1 = 2) & #1 = 3":             and(or(a, b), c),
		"#1 = 1 & (#1 = 2 | #1 = 3)":             and(a, or(b, c)),
		"!#1 = 1 & #1 = 2":                       and(not(a), b),
		"!(#1 = 1 & #1 = 2)":                     not(and(a, b)),
		"!#1 = 1 | !#1 = 2":                      or(not(a), not(b)),
		"!(#1 = 1 | #1 = 2) & !!(#4 is null)":    and(not(or(a, b)), not(not(d))),
		"((#1 = 1)) & ((#1 = 2 & #1 = 3))":       and(a, and(b, c)),
		"(((((((#1 = 1 | #1 = 2))))) & #1 = 3))": pred.Pred{},
		"((((((#1 = 1 | #1 = 2)))) & #1 = 3))":   and(or(a, b), c),
	} {
		p, err := pred.Read(small(), s)
		if isNoPred(want) {
			if !isNoPred(p) || err != api.ErrBound {
				t.Errorf("%s: %+v, %v", s, p, err)
			}
			continue
		}
		if !reflect.DeepEqual(p, want) || err != nil {
			t.Errorf("%s: %+v, %v", s, p, err)
		}
	}
}

func TestP141NoText(t *testing.T) {
	for _, s := range []string{
		"", " ", "#", "#1", "#1 ", "#1 <", "#1 < ", "#1 is", "#1 is ", "#1 is nul", "#1 is nulls", "#1 is NULL", "is null", "1 is null", "1 < 5", "null", "true",
		// IDs.
		"# is null", "#0 is null", "#01 is null", "#001 < 5", "#00 is null", "#+1 is null", "#-1 is null", "#1.0 is null", "#0x1 is null", "#1_2 is null", "#1e0 is null", "# 1 is null", "##1 is null",
		"#7 is null", "#2 is null", "#3 is null", "#2 = 1", "#9999 is null", "#10000 is null", "#1001 is null", "#18446744073709551617 is null", "#99999999999999999999 is null", "#a is null",
		// Blanks.
		" #1 < 5", "#1 < 5 ", "#1  < 5", "#1 <  5", "#1< 5", "#1 <5", "#1<5", "#1\t< 5", "#1 <\n5", "#1 < 5\n", "#1  is null", "#1 is  null", "#1is null", "#1 isnull", "#1 is null ", "#1\tis null", "#1 is\u00a0null",
		"#1 < 5&#1 < 5", "#1 < 5 &#1 < 5", "#1 < 5& #1 < 5", "#1 < 5  & #1 < 5", "#1 < 5 &  #1 < 5", "#1 < 5|#1 < 5", "#1 < 5 |#1 < 5", "#1 < 5| #1 < 5", "#1 < 5 |  #1 < 5", "#1 < 5\n& #1 < 5",
		"! #1 < 5", "( #1 < 5)", "(#1 < 5 )", "!( #1 < 5)", "! (#1 < 5)", " (#1 < 5)", "(#1 < 5) ",
		// How.
		"#1 == 5", "#1 => 5", "#1 =< 5", "#1 <> 5", "#1 ! 5", "#1 !< 5", "#1 << 5", "#1  5", "#1 5", "#1 is 5", "#1 is not null", "#1 lt 5", "#1 = null", "#1 < = 5", "#1 \x00 5",
		// Values: of the leaf's kind, as they are written.
		"#1 < 05", "#1 < -0", "#1 < +5", "#1 < --5", "#1 < -", "#1 < 00", "#1 < 5.0", "#1 < 5x", "#1 < 2147483648", "#1 < -2147483649", "#1 < true", `#1 < "5"`, "#1 < x4014000000000000", "#1 < 99999999999999999999", "#1 < #1", "#1 < (5)",
		"#1000 < 9223372036854775808", "#1000 < -9223372036854775809", "#1000 = 5L",
		"#5 = 1", "#5 = 0", "#5 = True", "#5 = tru", "#5 = truefalse", "#5 = t", "#5 = null",
		"#6 = 1", "#6 = 1.5", "#6 = x", "#6 = x3ff800000000000", "#6 = x3ff80000000000000", "#6 = X3ff8000000000000", "#6 = x3FF8000000000000", "#6 = 3ff8000000000000",
		`#4 = x`, `#4 = 'x'`, `#4 = "x`, `#4 = x"`, `#4 = "`, `#4 = "\"`, `#4 = "\0"`, `#4 = "\41"`, `#4 = "\0A"`, `#4 = "\n"`, "#4 = \"\n\"", "#4 = \"\xff\"", `#4 = "a"b"`, `#4 = "a""`, `#4 = "` + strings.Repeat("x", 101) + `"`, `#4 = 5`, `#4 = null`,
		// Marks.
		"!", "!!", "()", "!()", "(", ")", "((#1 < 5)", "(#1 < 5))", "(#1 < 5", "#1 < 5)", ")#1 < 5(", "#1 < 5 & ", " & #1 < 5", "#1 < 5 | ", " | #1 < 5", "#1 < 5 &", "& #1 < 5", "&", " & ", " | ", "#1 < 5 & & #1 < 5", "#1 < 5 & | #1 < 5", "#1 < 5 && #1 < 5", "#1 < 5 || #1 < 5",
		"#1 < 5 #1 < 5", "#1 < 5 and #1 < 5", "(#1 < 5)(#1 < 5)", "(#1 < 5) (#1 < 5)", "#1 < 5!", "#1 !< 5", "#1 < !5", "#(1) < 5", "#1 (<) 5", "(#1 <) 5", "(#1 < 5 & ) #1 < 5", "[#1 < 5]", "{#1 < 5}", "#1 < 5;", "#1 < 5 & !", "#1 < 5 & (", "#1 < 5\x00", "\xff",
	} {
		if p, err := pred.Read(small(), s); !isNoPred(p) || err != api.ErrText {
			t.Errorf("%q: %+v, %v", s, p, err)
		}
		if _, _, is := readByTheRule(small(), s); is {
			t.Errorf("%q is one by the rule", s)
		}
	}
}

// ofLength: a predicate's text of just so many bytes.
func ofLength(bytes int) string {
	s := "#1 = 1"
	for len(s) < bytes-100 {
		s += " | #1 = 1"
	}
	s += ` | #4 = "`
	return s + strings.Repeat("x", bytes-len(s)-1) + `"`
}

func TestP141Bounds(t *testing.T) {
	exact := ofLength(api.MaxText)
	if p, err := pred.Read(small(), exact); len(exact) != api.MaxText || isNoPred(p) || err != nil {
		t.Error(len(exact), err)
	}
	for _, s := range []string{ofLength(api.MaxText + 1), exact + " ", strings.Repeat("x", api.MaxText+1), strings.Repeat("!", 1<<20), strings.Repeat("(", api.MaxText+1)} {
		if p, err := pred.Read(small(), s); !isNoPred(p) || err != api.ErrBound {
			t.Errorf("%.20q: %+v, %v", s, p, err)
		}
	}
	many := strings.Repeat
	for s, want := range map[string]error{
		many("!", 6) + "#1 < 5":                                           nil,
		many("!", 7) + "#1 < 5":                                           api.ErrBound,
		many("(", 6) + "#1 < 5" + many(")", 6):                            nil,
		many("(", 7) + "#1 < 5" + many(")", 7):                            api.ErrBound,
		many("!(", 3) + "#1 < 5" + many(")", 3):                           nil,
		many("!(", 3) + "!#1 < 5" + many(")", 3):                          api.ErrBound,
		many("!(", 3) + "(#1 < 5)" + many(")", 3):                         api.ErrBound,
		many("!", 6) + "#1 < 5 & " + many("!", 6) + "#1 < 5":              nil,
		"(" + many("!", 5) + "#1 < 5 & " + many("!", 5) + "#1 < 5)":       nil,
		"(" + many("!", 5) + "#1 < 5 & " + many("!", 6) + "#1 < 5)":       api.ErrBound,
		"#1 < 5 | #1 < 5 & " + many("(", 7) + "#1 is null" + many(")", 7): api.ErrBound,
		"#1 < 5" + many(" & #1 < 5", 800):                                 nil,
		`#4 = "` + many("!", 90) + `"`:                                    nil,
		// What is no text at all is told first, wherever that is to be seen.
		many("!", 7):                                 api.ErrText,
		many("!", 7) + "#1 < 5 ":                     api.ErrText,
		many("(", 7) + "#1 < 5" + many(")", 6):       api.ErrText,
		many("(", 7) + "#1 < 5" + many(")", 8):       api.ErrText,
		many("!", 7) + "#1 < 5 & #2 is null":         api.ErrText,
		many("!", 7999) + "#":                        api.ErrText,
		many("(", 8000):                              api.ErrText,
		many("(", 3997) + "#1 = 1" + many(")", 3997): api.ErrBound,
		many("!", 7994) + "#1 = 1":                   api.ErrBound,
	} {
		if p, err := pred.Read(small(), s); err != want || isNoPred(p) != (want != nil) {
			t.Errorf("%.30q (%d): %v", s, len(s), err)
		}
	}
}

// wrongRoots: each with the error that schema.Valid tells of it.
func wrongRoots() map[error]api.Node {
	name, bound := small(), small()
	name.Sub[0].ID = 0
	for len(bound.Sub) <= api.MaxNodes {
		bound.Sub = append(bound.Sub, bound.Sub[0])
	}
	return map[error]api.Node{api.ErrShape: {}, api.ErrName: name, api.ErrBound: bound}
}

// TestP3ValidsErrorsFirst: whatever else is wrong.
func TestP3ValidsErrorsFirst(t *testing.T) {
	for want, root := range wrongRoots() {
		for _, s := range []string{"#1 < 5", "", strings.Repeat("x", api.MaxText+1), strings.Repeat("!", 7) + "#1 < 5"} {
			if p, err := pred.Read(root, s); !isNoPred(p) || err != want {
				t.Errorf("%.20q: %+v, %v, not %v", s, p, err, want)
			}
		}
		for _, p := range []pred.Pred{term(1, "<", whole(5)), {}, not(pred.Pred{})} {
			if s, err := pred.Text(root, p); s != "" || err != want {
				t.Errorf("%+v: %s, %v, not %v", p, s, err, want)
			}
			if is, err := pred.Eval(root, p, api.Datum{}); is || err != want {
				t.Errorf("%+v: %v, %v, not %v", p, is, err, want)
			}
		}
	}
}

// spoil a text: a piece of it goes, comes twice, or changes.
func spoil(r *rand.Rand, s string) string {
	pieces := []string{" ", "!", "(", ")", " & ", " | ", "&", "|", "#", "1", "0", "-", "<", "=", "is", " is null", "null", `"`, `\`, "x", "true", "\x00", "#1 = 1"}
	at := r.Intn(len(s) + 1)
	to := min(len(s), at+r.Intn(4))
	switch r.Intn(4) {
	case 0:
		return s[:at] + s[to:]
	case 1:
		return s[:to] + s[at:]
	}
	return s[:at] + pieces[r.Intn(len(pieces))] + s[to:]
}

// TestP141ByTheRule: texts with needless brackets, and spoilt ones, as another reader has them.
func TestP141ByTheRule(t *testing.T) {
	r := rand.New(rand.NewSource(141))
	seen := map[error]int{}
	for range 20000 {
		root := small()
		if r.Intn(3) == 0 {
			root = anySchema(r, 1+r.Intn(10))
		}
		s, _ := spelt(anyPred(r, root, 1+r.Intn(6)), func() bool { return r.Intn(8) == 0 })
		for range r.Intn(3) {
			s = spoil(r, s)
		}
		want, deep, is := readByTheRule(root, s)
		wantErr := error(nil)
		if !is {
			want, wantErr = pred.Pred{}, api.ErrText
		} else if deep > api.MaxDeep {
			want, wantErr = pred.Pred{}, api.ErrBound
		}
		p, err := pred.Read(root, s)
		if err != wantErr || !reflect.DeepEqual(p, want) {
			t.Fatalf("%s: %+v, %v, not %+v, %v", s, p, err, want, wantErr)
		}
		seen[err]++
	}
	if seen[nil] < 4000 || seen[api.ErrText] < 4000 || seen[api.ErrBound] < 150 {
		t.Error(seen)
	}
}
