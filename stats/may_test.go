package stats_test

import (
	"math"
	"math/rand"
	"slices"
	"strings"
	"testing"

	"shredcol/api"
	"shredcol/enc"
	"shredcol/stats"
)

var hows = []string{"<", "<=", "=", "!=", ">", ">="}

// stands: the words themselves, by where a is seen from b.
func stands(a api.Value, how string, b api.Value) bool {
	side := "="
	if enc.Less(a, b) {
		side = "<"
	} else if enc.Less(b, a) {
		side = ">"
	}
	if how == "!=" {
		return side != "="
	}
	return strings.Contains(how, side)
}

// mayByTheRule: those of the values that lie between Min and Max are gone through.
func mayByTheRule(s stats.Stats, how string, v api.Value, values []api.Value) bool {
	none := true
	for _, x := range values {
		if x.Kind != v.Kind || enc.Less(x, s.Min) || enc.Less(s.Max, x) {
			continue
		}
		if stands(x, how, v) {
			return true
		}
		none = false
	}
	return none
}

// holdMay: of each two bounds, each how and each value; values are those that there are, or enough to tell.
func holdMay(t *testing.T, bounds, values []api.Value) {
	t.Helper()
	for _, least := range bounds {
		for _, greatest := range bounds {
			s := between(least, greatest)
			for _, v := range values {
				for _, how := range hows {
					want := mayByTheRule(s, how, v, values)
					if may, err := stats.May(s, how, v); may != want || err != nil {
						t.Fatalf("%+v %s %+v: %v, %v, not %v", s, how, v, may, err, want)
					}
				}
			}
		}
	}
}

func TestP92Known(t *testing.T) {
	for _, c := range []struct {
		s    stats.Stats
		v    api.Value
		want string // of which hows it may be
	}{
		{between(whole(-3), whole(5)), whole(-4), "!= > >="},
		{between(whole(-3), whole(5)), whole(-3), "<= = != > >="},
		{between(whole(-3), whole(5)), whole(-2), "< <= = != > >="},
		{between(whole(-3), whole(5)), whole(5), "< <= = != >="},
		{between(whole(-3), whole(5)), whole(6), "< <= !="},
		{between(whole(4), whole(4)), whole(4), "<= = >="},
		{between(whole(4), whole(4)), whole(3), "!= > >="},
		{between(whole(4), whole(4)), whole(5), "< <= !="},
		{between(long(math.MinInt64), long(math.MaxInt64)), long(math.MinInt64), "<= = != > >="},
		{between(long(math.MinInt64), long(math.MaxInt64)), long(math.MaxInt64), "< <= = != >="},
		{between(number(api.Bool, 0), number(api.Bool, 1)), number(api.Bool, 1), "< <= = != >="},
		{between(text("b"), text("d")), text("a\xff"), "!= > >="},
		{between(text("b"), text("d")), text("bb"), "< <= = != > >="},
		{between(text("b"), text("d")), text("d\x00"), "< <= !="},
		{between(text(""), text("")), text(""), "<= = >="},
		// By the order of all doubles: -0 is ahead of 0, and what is no number has its place.
		{between(double(0), double(0)), double(math.Copysign(0, -1)), "!= > >="},
		{between(double(-2), double(-1)), double(-1.5), "< <= = != > >="},
		{between(double(-2), double(-1)), double(-3), "!= > >="},
		{between(double(0), double(math.Inf(1))), number(api.Double, math.MaxInt64), "< <= !="},
		{between(double(0), double(math.Inf(1))), number(api.Double, -1), "!= > >="},
	} {
		for _, how := range hows {
			want := slices.Contains(strings.Fields(c.want), how)
			if may, err := stats.May(c.s, how, c.v); may != want || err != nil {
				t.Errorf("%+v %s %+v: %v, %v", c.s, how, c.v, may, err)
			}
		}
	}
}

// TestP92NoValues: none can, whatever the kind, and whatever stands in Min and Max.
func TestP92NoValues(t *testing.T) {
	for _, s := range []stats.Stats{{}, {Entries: 3, Nulls: 3}, {Entries: 3}, {Entries: 1, Min: whole(1), Max: whole(9)}, {Min: number(9, 1), Max: text("x")}} {
		for _, kind := range kinds {
			for _, how := range hows {
				if may, err := stats.May(s, how, api.Value{Kind: kind}); may || err != nil {
					t.Errorf("%+v %s: %v, %v", s, how, may, err)
				}
			}
		}
	}
}

func TestP92Errors(t *testing.T) {
	s := between(whole(1), whole(9))
	for _, how := range []string{"", "==", "<>", "=<", "=>", "!", " <", "< ", "<\x00", "\xff", "is null", "<<", "lt"} {
		// No such how is told ahead of a value that is none, also where there is no value.
		for _, v := range []api.Value{whole(4), text("x"), {}} {
			for _, s := range []stats.Stats{s, {}} {
				if may, err := stats.May(s, how, v); may || err != api.ErrText {
					t.Errorf("%q: %v, %v", how, may, err)
				}
			}
		}
	}
	noValues := []api.Value{{}, {Kind: 6}, {Kind: -1}, whole(math.MaxInt32 + 1), whole(math.MinInt32 - 1), {Kind: api.Int, N: 4, S: "x"},
		number(api.Bool, 2), {Kind: api.Bytes, N: 1}, text(strings.Repeat("x", api.MaxBytes+1)), {Kind: api.Long, S: "x"}, {Kind: api.Double, S: "x"}}
	for _, how := range hows {
		for _, v := range noValues {
			for _, s := range []stats.Stats{s, {}, between(v, v)} {
				if may, err := stats.May(s, how, v); may || err != api.ErrKind {
					t.Errorf("%+v %s %+v: %v, %v", s, how, v, may, err)
				}
			}
		}
		for _, a := range kinds {
			for _, b := range kinds {
				may, err := stats.May(between(number(a, 0), number(a, 0)), how, number(b, 0))
				if a != b && (may || err != api.ErrKind) || a == b && err != nil {
					t.Errorf("%d %s %d: %v, %v", a, how, b, may, err)
				}
			}
		}
	}
}

func TestP92Bools(t *testing.T) {
	var bounds []api.Value
	for _, n := range []int64{math.MinInt64, -1, 0, 1, 2, math.MaxInt64} {
		bounds = append(bounds, number(api.Bool, n))
	}
	holdMay(t, bounds, []api.Value{number(api.Bool, 0), number(api.Bool, 1)})
}

// TestP92Numbers: also with bounds that are no values: beyond those of 32 bits, or with a text.
func TestP92Numbers(t *testing.T) {
	for _, kind := range []int{api.Int, api.Long, api.Double} {
		var bounds, values []api.Value
		for _, n := range []int64{math.MinInt64, math.MinInt64 + 1, math.MinInt32 - 1, math.MinInt32, math.MinInt32 + 1, -2, -1, 0, 1, math.MaxInt32 - 1, math.MaxInt32, math.MaxInt32 + 1, math.MaxInt64 - 1, math.MaxInt64} {
			bounds = append(bounds, number(kind, n))
			if enc.IsValue(number(kind, n)) {
				values = append(values, number(kind, n))
			}
		}
		bounds = append(bounds, api.Value{Kind: kind, N: 1, S: "x"})
		holdMay(t, bounds, values)
	}
}

// endings of the alphabet's bytes, up to so many.
func endings(alphabet string, most int) []string {
	all := []string{""}
	for from := 0; most > 0; most-- {
		to := len(all)
		for _, s := range all[from:to] {
			for i := range len(alphabet) {
				all = append(all, s+alphabet[i:i+1])
			}
		}
		from = to
	}
	return all
}

// TestP92LongTexts: also with bounds that are longer than values are, so that the next shorter text counts.
func TestP92LongTexts(t *testing.T) {
	for _, letter := range []string{"p", "\x00", "\xff"} {
		head := strings.Repeat(letter, api.MaxBytes-2)
		var bounds, values []api.Value
		for _, s := range endings("\x00a\xff", 3) {
			bounds = append(bounds, text(head+s))
		}
		for _, s := range endings("\x00\x01ab\xff", 2) {
			values = append(values, text(head+s))
		}
		less := head[1:]
		values = append(values, text(""), text(less), text(less+"\x01"), text(less+"q"), text("\xff"))
		bounds = append(bounds, text(""), text("\xff"), api.Value{Kind: api.Bytes, N: 5, S: head})
		holdMay(t, bounds, values)
	}
}

// TestP92UnlikeBounds: Max of another kind; Min's is the one that v must have.
func TestP92UnlikeBounds(t *testing.T) {
	for _, c := range []struct {
		least, greatest, v api.Value
		want               string
	}{
		{whole(5), long(-9), whole(5), "<= = != > >="},
		{whole(5), long(-9), whole(4), "!= > >="},
		{whole(5), long(-9), whole(math.MaxInt32), "< <= = != >="},
		{text("b"), double(0), text(strings.Repeat("\xff", api.MaxBytes)), "< <= = != >="},
		{number(api.Bool, 1), number(9, 0), number(api.Bool, 1), "<= = >="},
		{whole(5), number(api.Bool, 1), whole(5), "< <= = != > >="},
		{double(5), text("x"), double(5), "< <= = != > >="},
		{whole(5), number(-1, 1), whole(5), "< <= = != > >="},
	} {
		for _, how := range hows {
			want := slices.Contains(strings.Fields(c.want), how)
			if may, err := stats.May(between(c.least, c.greatest), how, c.v); may != want || err != nil {
				t.Errorf("%+v to %+v %s %+v: %v, %v", c.least, c.greatest, how, c.v, may, err)
			}
		}
		if may, err := stats.May(between(c.least, c.greatest), "=", api.Value{Kind: c.greatest.Kind}); may || err != api.ErrKind {
			t.Errorf("%+v to %+v: %v, %v", c.least, c.greatest, may, err)
		}
	}
}

// TestP93MayWhereAValueStandsSo, of columns and of what is merged; and it is false just where no value between could.
func TestP93MayWhereAValueStandsSo(t *testing.T) {
	r := rand.New(rand.NewSource(931))
	ruledOut := 0
	for range 4000 {
		kind := kinds[r.Intn(len(kinds))]
		leaf, c := anyColumn(r, kind, r.Intn(8))
		other, d := anyColumn(r, kind, r.Intn(8))
		s, err := stats.Merge(mustOf(t, leaf, c), mustOf(t, other, d))
		if err != nil {
			t.Fatal(err)
		}
		values := slices.Concat(c.Values, d.Values)
		for range 4 {
			v, how := anyValue(r, kind), hows[r.Intn(len(hows))]
			may, err := stats.May(s, how, v)
			some := slices.ContainsFunc(values, func(x api.Value) bool { return stands(x, how, v) })
			if some && !may || err != nil {
				t.Fatalf("%+v %s %+v: %v, %v", values, how, v, may, err)
			}
			if want := len(values) > 0 && mayByTheRule(s, how, v, append(slices.Clone(values), v)); may != want {
				t.Fatalf("%+v %s %+v: %v", s, how, v, may)
			}
			if !may {
				ruledOut++
			}
		}
	}
	if ruledOut < 2000 {
		t.Errorf("ruled out %d times", ruledOut)
	}
}

// TestP92Standing: by its name, how one value stands to another one.
func TestP92Standing(t *testing.T) {
	r := rand.New(rand.NewSource(921))
	for range 5000 {
		kind := kinds[r.Intn(len(kinds))]
		a, b := anyValue(r, kind), anyValue(r, kind)
		for _, how := range hows {
			is, has := stats.Standing(how)
			if !has || is(a, b) != stands(a, how, b) || is(a, a) != stands(a, how, a) {
				t.Fatalf("%+v %s %+v: %v", a, how, b, has)
			}
		}
	}
	for _, how := range []string{"", "==", "is", " <", "< ", "\x00"} {
		if is, has := stats.Standing(how); is != nil || has {
			t.Errorf("%q", how)
		}
	}
}
