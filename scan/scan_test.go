package scan_test

import (
	"math"
	"math/rand"
	"slices"
	"strings"
	"testing"

	"shredcol/api"
	"shredcol/file"
	"shredcol/plain"
	"shredcol/scan"
	"shredcol/schema"
)

// Edits of one table: files are written behind the first three, or two.
var edits = []string{
	"add 0 required int a;",
	"add 0 optional group b { repeated group c { optional bytes d; required bool e; } required long f; }",
	"add 0 repeated double g;",
	"add 3 required bytes h;",
	"add 2 optional int i;",
	"add 0 required group j { required bool k; repeated int l; }",
	"add 3 repeated group m { required long n; }",
	"widen 1",
	"loosen 6",
	"rename 2 bb",
	"move 7 0",
}

// Of the last one of edits: g #7, a #1, bb #2 { c #3 { d #4, e #5, h #8, m #13 { n #14 } }, f #6, i #9 }, j #10 { k #11, l #12 }.

var lines = []string{
	`{a:1,b:{c:[{d:"x",e:true},{d:null,e:false}],f:10},g:[x0000000000000000]}`,
	`{a:2,b:null,g:[]}`,
	`{a:3,b:{c:[],f:30},g:[x0000000000000000,x3ff0000000000000]}`,
	`{a:4,b:{c:[{d:"y",e:false}],f:40},g:[]}`,
	`{a:-5,b:{c:[{d:null,e:true}],f:-50},g:[x8000000000000000]}`,
}

func then() api.Node { return replayed(edits[:3]...) }

func now() api.Node { return replayed(edits...) }

func small() string { return fileOf(then(), 2, 1, lines...) }

func mustAnswer(t *testing.T, s string, a scan.Ask, want string) {
	t.Helper()
	l, err := scan.Naive(s, a)
	if err != nil || textsOf(a, l) != want {
		t.Errorf("Naive, %v, %q: %s, %v, not %s", a.IDs, a.Where, textsOf(a, l), err, want)
	}
	m, _, err := scan.Scan(s, a)
	if err != nil || textsOf(a, m) != want {
		t.Errorf("Scan, %v, %q: %s, %v, not %s", a.IDs, a.Where, textsOf(a, m), err, want)
	}
	if n, err := scan.Count(s, a); n != len(l) || err != nil {
		t.Errorf("Count, %v, %q: %d, %v, not %d", a.IDs, a.Where, n, err, len(l))
	}
}

// same: by number and place.
func same(a, b error) bool {
	code, at := plain.Code(a)
	other, place := plain.Code(b)
	return code == other && at == place && (a == nil) == (b == nil)
}

func mustNotNaive(t *testing.T, s string, a scan.Ask, want error) {
	t.Helper()
	if l, err := scan.Naive(s, a); len(l) > 0 || !same(err, want) {
		t.Errorf("Naive, %v, %q: %s, %v, not %v", a.IDs, a.Where, told(l), err, want)
	}
}

func mustNotScan(t *testing.T, s string, a scan.Ask, want error) {
	t.Helper()
	if l, cost, err := scan.Scan(s, a); len(l) > 0 || cost != (scan.Cost{}) || !same(err, want) {
		t.Errorf("Scan, %v, %q: %s, %v, %v, not %v", a.IDs, a.Where, told(l), cost, err, want)
	}
	if n, err := scan.Count(s, a); n != 0 || !same(err, want) {
		t.Errorf("Count, %v, %q: %d, %v, not %v", a.IDs, a.Where, n, err, want)
	}
}

func TestP150Known(t *testing.T) {
	s := small()
	for _, c := range []struct {
		ids         []int
		where, want string
	}{
		{[]int{0}, "#1 = 1", `{g:[x0000000000000000],a:1,bb:{c:[{d:"x",e:true,h:"",m:[]},{d:null,e:false,h:"",m:[]}],f:10,i:null},j:{k:false,l:[]}}`},
		{[]int{1}, "", `{a:1} {a:2} {a:3} {a:4} {a:-5}`},
		{[]int{1, 1, 1}, "#7 is null", `{a:2} {a:4}`},
		{[]int{7, 6}, "#5 = true", `{g:[x0000000000000000],bb:{f:10}} {g:[x8000000000000000],bb:{f:-50}}`},
		{[]int{8}, "#1 > 1", `{bb:null} {bb:{c:[]}} {bb:{c:[{h:""}]}}`},
		{[]int{14}, "", `{bb:{c:[{m:[]},{m:[]}]}} {bb:null} {bb:{c:[]}} {bb:{c:[{m:[]}]}} {bb:{c:[{m:[]}]}}`},
		{[]int{9}, "#6 >= 30", `{bb:{i:null}} {bb:{i:null}}`},
		{[]int{10}, "", `{j:{k:false,l:[]}} {j:{k:false,l:[]}} {j:{k:false,l:[]}} {j:{k:false,l:[]}} {j:{k:false,l:[]}}`},
		{[]int{12}, "#1 = 4", `{j:{l:[]}}`},
		{[]int{1}, `#8 = ""`, `{a:1} {a:4} {a:-5}`},
		{[]int{1}, "#8 is null", `{a:2} {a:3}`},
		{[]int{1}, "#9 is null & #14 is null & #12 is null & #11 = false", `{a:1} {a:2} {a:3} {a:4} {a:-5}`},
		{[]int{1}, "#11 = true | #12 = 0", ``},
		{[]int{1}, "!(#7 is null | #1 <= 1)", `{a:3}`},
		{[]int{1}, "#1 < 2147483648 & #1 != -5", `{a:1} {a:2} {a:3} {a:4}`},
		{[]int{1}, "#7 < x0000000000000000", `{a:-5}`},
		{[]int{1}, "#6 is null", `{a:2}`},
		{[]int{1}, `((#4 = "x") | (#4 = "y"))`, `{a:1} {a:4}`},
	} {
		mustAnswer(t, s, scan.Ask{To: now(), IDs: c.ids, Where: c.where}, c.want)
	}
}

// TestP150OtherSchemas than those of edits.
func TestP150OtherSchemas(t *testing.T) {
	s := small()
	for _, c := range []struct {
		to   string
		id   int
		want string
	}{
		{"required int x #1;", 0, `{x:1} {x:2} {x:3} {x:4} {x:-5}`},
		{"optional long x #1;", 1, `{x:1} {x:2} {x:3} {x:4} {x:-5}`},
		// Nothing that the file has.
		{"required int x #1000; optional bytes y #20;", 0, `{x:0,y:null} {x:0,y:null} {x:0,y:null} {x:0,y:null} {x:0,y:null}`},
		// The group alone is what both have.
		{"optional group b #2 { required bool x #20; repeated int y #21; }", 21, `{b:{y:[]}} {b:null} {b:{y:[]}} {b:{y:[]}} {b:{y:[]}}`},
		{"optional group b #2 { required group z #20 { optional group x #21 { required int y #22; } } }", 22, `{b:{z:{x:null}}} {b:null} {b:{z:{x:null}}} {b:{z:{x:null}}} {b:{z:{x:null}}}`},
		{"optional group b #2 { repeated group c #3 { required double x #20; } }", 3, `{b:{c:[{x:x0000000000000000},{x:x0000000000000000}]}} {b:null} {b:{c:[]}} {b:{c:[{x:x0000000000000000}]}} {b:{c:[{x:x0000000000000000}]}}`},
	} {
		mustAnswer(t, s, scan.Ask{To: schemaOf(c.to), IDs: []int{c.id}}, c.want)
	}
	empty := fileOf(then(), 1, 1)
	mustAnswer(t, empty, scan.Ask{To: now(), IDs: []int{0}}, ``)
	mustAnswer(t, empty, scan.Ask{To: now(), IDs: []int{0}, Where: "#1 = 1"}, ``)
}

// TestP150Errors in their order; those of the Ask are Scan's, too.
func TestP150Errors(t *testing.T) {
	s := small()
	mustNot := func(a scan.Ask, want error) {
		t.Helper()
		mustNotNaive(t, s, a, want)
		mustNotScan(t, s, a, want)
	}
	deep := strings.Repeat("(", api.MaxDeep+1) + "#1 = 1" + strings.Repeat(")", api.MaxDeep+1)
	long := "#1 = 1" + strings.Repeat(" & #1 = 1", api.MaxText/9+1)
	other := schemaOf("required bytes a #1;")
	twice := api.Node{Name: "root", Rep: api.Required, Sub: []api.Node{other.Sub[0], other.Sub[0]}}
	var many api.Node
	for range 60 {
		many = api.Node{ID: 1, Name: "a", Rep: api.Required, Sub: []api.Node{many, many}}
	}
	for _, ids := range [][]int{{0}, {99}, nil} {
		for _, where := range []string{"", "#1 = 1", "x", long} {
			mustNot(scan.Ask{IDs: ids, Where: where}, api.ErrShape)
			mustNot(scan.Ask{To: replayed(), IDs: ids, Where: where}, api.ErrShape)
			mustNot(scan.Ask{To: twice, IDs: ids, Where: where}, api.ErrName)
			mustNot(scan.Ask{To: many, IDs: ids, Where: where}, api.ErrBound)
			mustNot(scan.Ask{To: other, IDs: ids, Where: where}, api.ErrKind)
		}
		for where, want := range map[string]error{
			"x": api.ErrText, " ": api.ErrText, "#2 is null": api.ErrText, "#15 is null": api.ErrText, "#0 is null": api.ErrText, "#1 = \"x\"": api.ErrText, "#1 = 9223372036854775808": api.ErrText, "#1 = 1 ": api.ErrText,
			long: api.ErrBound, deep: api.ErrBound,
		} {
			mustNot(scan.Ask{To: now(), IDs: ids, Where: where}, want)
		}
	}
	for _, where := range []string{"", "#1 = 1", "#1 = 99"} {
		for _, ids := range [][]int{{99}, {-1}, {0, 15}, {math.MaxInt}, {1, math.MinInt}} {
			mustNot(scan.Ask{To: now(), IDs: ids, Where: where}, api.ErrNone)
		}
		mustNot(scan.Ask{To: now(), Where: where}, api.ErrShape)
		mustNot(scan.Ask{To: now(), IDs: []int{}, Where: where}, api.ErrShape)
	}
}

// TestP150Same is asked from the file to To.
func TestP150Same(t *testing.T) {
	s := fileOf(schemaOf("required long a #1; optional group b #2 { required int c #3; }"), 1, 1, "{a:5,b:null}")
	for _, to := range []string{
		"required int a #1;", "repeated long a #1;", "required double a #1;", "required group a #1 { required int c #9; }",
		"required long a #2;", "required group b #2 { required int c #3; }", "required int c #3;", "optional group x #20 { required long a #1; }",
	} {
		for _, ids := range [][]int{{0}, {1}, {99}, nil} {
			a := scan.Ask{To: schemaOf(to), IDs: ids, Where: "x"}
			mustNotNaive(t, s, a, api.ErrKind)
			mustNotScan(t, s, a, api.ErrKind)
		}
	}
	mustAnswer(t, s, scan.Ask{To: schemaOf("optional group x #2 { optional long y #3; } optional long z #1;"), IDs: []int{0}, Where: "#3 is null"}, "{x:null,z:5}")
}

// TestP150FileErrors: Naive's are file.Read's, ahead of all others.
func TestP150FileErrors(t *testing.T) {
	s := small()
	f := must(file.Open(s))
	wrong := []string{"", "x", s[1:], s[:len(s)-1], strings.Repeat("x", api.MaxData+1), spoilt(s, len(s)-20, 1)}
	for group := range f.Groups {
		for _, id := range []int{1, 4, 7} {
			wrong = append(wrong, spoiltChunk(s, f, group, id), hollow(s, f, group, id))
		}
	}
	for _, s := range wrong {
		_, _, want := file.Read(s)
		if want == nil {
			t.Fatal("read")
		}
		for _, a := range []scan.Ask{{}, {To: now()}, {To: now(), IDs: []int{6}}, {To: now(), IDs: []int{6}, Where: "#6 = 99"}, {To: now(), IDs: []int{6}, Where: "x"}} {
			mustNotNaive(t, s, a, want)
		}
		if _, err := file.Open(s); err != nil {
			mustNotScan(t, s, scan.Ask{}, err)
			mustNotScan(t, s, scan.Ask{To: now(), IDs: []int{0}}, err)
		} else {
			// Behind what is wrong with the Ask.
			mustNotScan(t, s, scan.Ask{}, api.ErrShape)
			mustNotScan(t, s, scan.Ask{To: now(), IDs: []int{0}, Where: "x"}, api.ErrText)
			mustNotScan(t, s, scan.Ask{To: now(), IDs: []int{99}}, api.ErrNone)
			mustNotScan(t, s, scan.Ask{To: now(), IDs: []int{0}}, want)
		}
	}
}

// TestP151Needed: what else is in the file may be anything.
func TestP151Needed(t *testing.T) {
	s := small()
	f := must(file.Open(s))
	for _, c := range []struct {
		ids   []int
		where string
		want  []int
	}{
		{[]int{0}, "", []int{1, 4, 5, 6, 7}},
		{[]int{1}, "", []int{1}},
		{[]int{7, 1}, "", []int{1, 7}},
		{[]int{5}, "", []int{5}},
		{[]int{1}, "#6 > 0 | #1 = 1", []int{1, 6}},
		{[]int{3}, "", []int{4, 5}},
		// Not in the file: the first leaf of the nearest node around.
		{[]int{8}, "", []int{4}},
		{[]int{13}, "", []int{4}},
		{[]int{14, 8}, "", []int{4}},
		{[]int{9}, "", []int{4}},
		{[]int{11}, "", []int{1}},
		{[]int{10, 7}, "", []int{1, 7}},
		{[]int{7}, "#12 is null", []int{1, 7}},
		{[]int{7}, `#8 = "" & #9 is null`, []int{4, 7}},
		{[]int{5, 6}, "#14 is null & #5 = true", []int{4, 5, 6}},
	} {
		a := scan.Ask{To: now(), IDs: c.ids, Where: c.where}
		want := must(scan.Naive(s, a))
		worn, pages := s, 0
		for group := range f.Groups {
			for _, id := range []int{1, 4, 5, 6, 7} {
				if slices.Contains(c.want, id) {
					pages += len(pagesOf(s, f, group, id))
				} else {
					worn = spoiltChunk(worn, f, group, id)
				}
			}
		}
		got, cost, err := scan.Scan(worn, a)
		if told(got) != told(want) || err != nil || cost.Pages+cost.Skipped != pages {
			t.Errorf("%v, %q: %s, %v, %v, not %s of %d pages", c.ids, c.where, told(got), cost, err, told(want), pages)
		}
		for group := range f.Groups {
			for _, id := range c.want {
				mustNotScan(t, spoiltChunk(s, f, group, id), a, api.ErrText)
			}
		}
	}
}

// TestP151NeededGone: the first leaf in the file, also where To has it no more.
func TestP151NeededGone(t *testing.T) {
	s := small()
	f := must(file.Open(s))
	to := replayed(append(slices.Clone(edits), "drop 4", "drop 1", "move 8 0", "add 0 optional group z { required int y; }")...)
	a := scan.Ask{To: to, IDs: []int{8, 15}}
	worn := s
	for group := range f.Groups {
		for _, id := range []int{5, 6, 7} {
			worn = spoiltChunk(worn, f, group, id)
		}
	}
	want := `{bb:{c:[{h:""},{h:""}]},z:null} {bb:null,z:null} {bb:{c:[]},z:null} {bb:{c:[{h:""}]},z:null} {bb:{c:[{h:""}]},z:null}`
	if l, cost, err := scan.Scan(worn, a); textsOf(a, l) != want || err != nil || cost.Skipped != 0 {
		t.Error(textsOf(a, l), cost, err)
	}
	mustAnswer(t, s, a, want)
	// The predicate asks for the very leaf for which another one stands in.
	a = scan.Ask{To: schemaOf("optional group b #2 { repeated group c #3 { required bytes h #8; } }"), IDs: []int{0}, Where: `#8 = ""`}
	mustAnswer(t, s, a, `{b:{c:[{h:""},{h:""}]}} {b:{c:[{h:""}]}} {b:{c:[{h:""}]}}`)
}

// TestP151Cost where groups are ruled out: of these no page is looked into.
func TestP151Cost(t *testing.T) {
	s := small()
	f := must(file.Open(s))
	for _, c := range []struct {
		where  string
		needed []int
		groups []int
	}{
		{"", []int{6}, []int{0, 1, 2}},
		{"#1 > 100", []int{1, 6}, nil},
		{"#1 = 2147483648", []int{1, 6}, nil}, // no Int is so great
		{"#1 < 0", []int{1, 6}, []int{2}},
		{"#1 >= 3", []int{1, 6}, []int{1}},
		{"#1 <= 2 & #6 > 9", []int{1, 6}, []int{0}},
		{"#1 is null", []int{1, 6}, nil},
		{"#6 is null", []int{6}, []int{0}},
		{"#1 = 1 | #1 = -5", []int{1, 6}, []int{0, 2}},
		{`#4 >= "x"`, []int{4, 6}, []int{0, 1}},
		{`#4 >= "x" & #1 > 2`, []int{1, 4, 6}, []int{1}},
		{`#8 = "" & #1 > 2`, []int{1, 4, 6}, []int{1}},
		{"#7 != x0000000000000000", []int{6, 7}, []int{1, 2}},
		{"#14 = 7", []int{4, 6}, []int{0, 1, 2}}, // of what the file has not nothing is known
	} {
		a := scan.Ask{To: now(), IDs: []int{6}, Where: c.where}
		want := scan.Cost{Bytes: f.Len}
		hidden := s
		for group := range f.Groups {
			for _, id := range c.needed {
				_, spot := spotOf(f, group, id)
				pages := len(pagesOf(s, f, group, id))
				if slices.Contains(c.groups, group) {
					want.Bytes += spot.Len
					want.Pages += pages
				} else {
					want.Skipped += pages
					hidden = hollow(hidden, f, group, id)
				}
			}
		}
		answer := must(scan.Naive(s, a))
		for _, s := range []string{s, hidden} {
			if l, cost, err := scan.Scan(s, a); told(l) != told(answer) || cost != want || err != nil {
				t.Errorf("%q: %s, %+v, %v, not %s, %+v", c.where, told(l), cost, err, told(answer), want)
			}
		}
	}
	empty := fileOf(then(), 1, 1)
	if _, cost, err := scan.Scan(empty, scan.Ask{To: now(), IDs: []int{0}}); cost != (scan.Cost{Bytes: must(file.Open(empty)).Len}) || err != nil {
		t.Error(cost, err)
	}
}

// TestP151CostByTheRule: what may not be looked into may be anything.
func TestP151CostByTheRule(t *testing.T) {
	r := rand.New(rand.NewSource(151))
	ruledOut, apart := 0, 0
	for range 2000 {
		c := anyTrial(r)
		f := must(file.Open(c.s))
		needed := c.needed()
		worn, most, pages, mayPages := c.s, f.Len, 0, 0
		for group := range f.Groups {
			may := c.mayHold(group)
			if !may {
				ruledOut++
			}
			for _, leaf := range must(schema.Leaves(c.from)) {
				_, spot := spotOf(f, group, leaf.ID)
				if !slices.Contains(needed, leaf.ID) {
					worn = spoilt(worn, spot.At, spot.Len)
					apart++
					continue
				}
				here := len(pagesOf(c.s, f, group, leaf.ID))
				pages += here
				if may {
					most += spot.Len
					mayPages += here
				} else {
					worn = hollow(worn, f, group, leaf.ID)
				}
			}
		}
		l, cost, err := scan.Scan(worn, c.ask)
		if told(l) != told(c.answer()) || err != nil {
			t.Fatalf("%v: %s, %v, not %s", c, told(l), err, told(c.answer()))
		}
		if cost.Bytes < f.Len || cost.Bytes > most || cost.Pages > mayPages || cost.Pages+cost.Skipped != pages || (cost.Bytes == f.Len) != (cost.Pages == 0) {
			t.Fatalf("%v: %+v, not of %d pages, %d of them, and %d bytes", c, cost, pages, mayPages, most)
		}
	}
	if ruledOut < 500 || apart < 500 {
		t.Error(ruledOut, apart)
	}
}
