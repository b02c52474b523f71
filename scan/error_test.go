package scan_test

import (
	"slices"
	"strings"
	"testing"

	"shredcol/api"
	"shredcol/bitrun"
	"shredcol/enc"
	"shredcol/file"
	"shredcol/scan"
	"shredcol/schema"
	"shredcol/stats"
	"shredcol/wire"
)

const errorText = "required int a #1;\noptional group g #2 {\n  required int b #3;\n  repeated int c #4;\n}\n"

func errorRoot() api.Node { return schemaOf(errorText) }

func sealed(body string) string {
	return "P" + wire.Uvarint(uint64(len(body))) + sumOf(body) + body
}

// pageOf whatever entries, which need not be a leaf's; the numbers are Ints.
func pageOf(leaf schema.Leaf, rep, def []int, numbers ...int64) string {
	known := stats.Stats{Entries: len(rep), Nulls: len(rep) - len(numbers), Has: len(numbers) > 0}
	var values []api.Value
	for _, n := range numbers {
		values = append(values, api.Value{Kind: api.Int, N: n})
	}
	if known.Has {
		known.Min, known.Max = slices.MinFunc(values, order), slices.MaxFunc(values, order)
	}
	levels := func(l []int, most int) string { return wire.Text(must(bitrun.Runs(l, bitrun.Width(most)))) }
	code, text, err := enc.Best(api.Int, values)
	return sealed(stats.Text(known) + levels(rep, leaf.MaxRep) + levels(def, leaf.MaxDef) + string([]byte{byte(must(code, err))}) + wire.Text(text))
}

func order(a, b api.Value) int { return int(a.N - b.N) }

// goodChunks of two records: {a:1,g:{b:7,c:[8,9]}} {a:2,g:null}.
func goodChunks() (a, b, c string, leaves []schema.Leaf) {
	leaves = must(schema.Leaves(errorRoot()))
	a = pageOf(leaves[0], []int{0, 0}, []int{0, 0}, 1, 2)
	b = pageOf(leaves[1], []int{0, 0}, []int{1, 0}, 7)
	c = pageOf(leaves[2], []int{0, 1, 0}, []int{2, 2, 0}, 8, 9)
	return a, b, c, leaves
}

// none: a page of which the stats can be read, and nothing behind them.
func none(s string) string {
	body := s[6:]
	_, used, err := stats.Read(body)
	return sealed(body[:must(used, err)] + strings.Repeat("\xee", len(body)-used))
}

func badSum(s string) string { return s[:2] + "\x00\x00\x00\x00" + s[6:] }

func TestP151ErrorsOfPages(t *testing.T) {
	a, b, c, leaves := goodChunks()
	if whole := builtFile(errorText, builtGroup{2, []string{a, b, c}}); whole != fileOf(errorRoot(), 2, 9, "{a:1,g:{b:7,c:[8,9]}}", "{a:2,g:null}") {
		t.Fatal("another file")
	}
	for name, x := range map[string]struct {
		chunk string
		want  error
	}{
		"another byte":          {"Q" + c[1:], api.ErrText},
		"another sum":           {badSum(c), api.ErrSum},
		"it ends early":         {c[:len(c)-1], api.ErrText},
		"more behind":           {c + "P", api.ErrText},
		"no stats":              {sealed("x"), api.ErrText},
		"stats of no entries":   {sealed("\x00\x00\x00"), api.ErrText},
		"of another kind":       {sealed(stats.Text(stats.Stats{Entries: 2, Has: true, Min: api.Value{Kind: api.Long}, Max: api.Value{Kind: api.Long}})), api.ErrText},
		"nothing behind stats":  {none(c), api.ErrText},
		"no page":               {"", api.ErrShape},
		"it goes on":            {pageOf(leaves[2], []int{1, 0, 0}, []int{2, 2, 0}, 8, 9), api.ErrShape},
		"fewer records":         {pageOf(leaves[2], []int{0, 1, 1}, []int{2, 2, 2}, 8, 9, 5), api.ErrShape},
		"more records":          {c + c, api.ErrShape},
		"too many entries":      {pageOf(leaves[2], make([]int, api.MaxEntries), make([]int, api.MaxEntries)) + c, api.ErrBound},
		"no records with these": {pageOf(leaves[2], []int{0, 0}, []int{2, 2}, 8, 9), api.ErrShape},
		"its b is not there":    {pageOf(leaves[2], []int{0, 0}, []int{0, 0}), api.ErrShape},
	} {
		for place, s := range []string{
			builtFile(errorText, builtGroup{2, []string{a, b, x.chunk}}),
			builtFile(errorText, builtGroup{2, []string{a, b, x.chunk}}, builtGroup{2, []string{a, b, c}}),
			builtFile(errorText, builtGroup{2, []string{a, b, c}}, builtGroup{2, []string{a, b, x.chunk}}),
		} {
			for _, where := range []string{"", "!#1 = 99", "#3 = 7"} {
				q := scan.Ask{To: errorRoot(), IDs: []int{2}, Where: where}
				mustNotNaive(t, s, q, x.want)
				mustNotScan(t, s, q, x.want)
			}
			q := scan.Ask{To: errorRoot(), IDs: []int{3}, Where: "#1 = 1"}
			want := strings.TrimSpace(strings.Repeat("{g:{b:7}} ", 1+min(place, 1)))
			if l, _, err := scan.Scan(s, q); textsOf(q, l) != want || err != nil {
				t.Errorf("%s, which is not needed: %s, %v", name, textsOf(q, l), err)
			}
		}
	}
}

// TestP151ErrorsOrder: Peek's ahead of Column's, and these ahead of Assemble's.
func TestP151ErrorsOrder(t *testing.T) {
	a, b, c, leaves := goodChunks()
	good := builtGroup{2, []string{a, b, c}}
	toSum, toText, toBound := builtGroup{2, []string{a, badSum(b), c}}, builtGroup{2, []string{a, b, none(c)}}, builtGroup{2, []string{a, b, pageOf(leaves[2], make([]int, api.MaxEntries), make([]int, api.MaxEntries)) + c}}
	fewer, apart := builtGroup{1, []string{a, b, c}}, builtGroup{2, []string{a, b, pageOf(leaves[2], []int{0, 0}, []int{0, 0})}}
	for i, x := range []struct {
		groups []builtGroup
		want   error
	}{
		{[]builtGroup{good, good}, nil},
		{[]builtGroup{toText, toSum}, api.ErrSum},
		{[]builtGroup{toSum, toText}, api.ErrSum},
		{[]builtGroup{toBound, toSum}, api.ErrSum},
		{[]builtGroup{fewer, toSum}, api.ErrSum},
		{[]builtGroup{apart, toSum}, api.ErrSum},
		{[]builtGroup{fewer, toText}, api.ErrShape},
		{[]builtGroup{toText, fewer}, api.ErrText},
		{[]builtGroup{apart, toText}, api.ErrText},
		{[]builtGroup{apart, good}, api.ErrShape},
		{[]builtGroup{good, apart}, api.ErrShape},
		{[]builtGroup{toBound, toText}, api.ErrBound},
	} {
		s := builtFile(errorText, x.groups...)
		q := scan.Ask{To: errorRoot(), IDs: []int{0}}
		if x.want != nil {
			mustNotScan(t, s, q, x.want)
		} else if l, _, err := scan.Scan(s, q); len(l) != 4 || err != nil {
			t.Error(i, told(l), err)
		}
	}
}

// TestP151TooMany entries of one leaf in the groups that are looked into, as they would be
// of one column.
func TestP151TooMany(t *testing.T) {
	const text = "optional int a #1;\noptional int b #2;\n"
	leaves := must(schema.Leaves(schemaOf(text)))
	many, def := make([]int, api.MaxEntries), make([]int, api.MaxEntries)
	full := builtGroup{api.MaxEntries, []string{pageOf(leaves[0], many, def), pageOf(leaves[1], many, def)}}
	one := builtGroup{1, []string{pageOf(leaves[0], []int{0}, []int{1}, 5), pageOf(leaves[1], []int{0}, []int{0})}}
	a := scan.Ask{To: schemaOf(text), IDs: []int{2}}
	s := builtFile(text, full)
	if n, err := scan.Count(s, a); n != api.MaxEntries || err != nil {
		t.Error(n, err)
	}
	for _, s := range []string{builtFile(text, full, one), builtFile(text, one, full, full)} {
		_, _, err := file.Read(s)
		mustNotScan(t, s, a, err)
		mustNotScan(t, s, a, api.ErrShape)
		ruledOut := scan.Ask{To: a.To, IDs: a.IDs, Where: "#1 = 5"}
		if l, cost, err := scan.Scan(s, ruledOut); textsOf(a, l) != "{b:null}" || cost.Pages != 2 || err != nil {
			t.Error(told(l), cost, err)
		}
	}
}

// TestP151NoPages: what no page tells rules a term out.
func TestP151NoPages(t *testing.T) {
	a, b, c, _ := goodChunks()
	s := builtFile(errorText, builtGroup{2, []string{a, "", c}}, builtGroup{2, []string{a, b, c}})
	for _, where := range []string{"#3 = 7", "!#3 is null"} {
		q := scan.Ask{To: errorRoot(), IDs: []int{3}, Where: where}
		if l, cost, err := scan.Scan(s, q); textsOf(q, l) != "{g:{b:7}}" || cost.Pages != 1 || cost.Skipped != 0 || err != nil {
			t.Error(where, told(l), cost, err)
		}
	}
	mustNotScan(t, s, scan.Ask{To: errorRoot(), IDs: []int{3}, Where: "#1 = 1"}, api.ErrShape)
}

func TestP152Known(t *testing.T) {
	s := small()
	for id, want := range map[int][2]api.Value{
		1: {{Kind: api.Int, N: -5}, {Kind: api.Int, N: 4}},
		4: {{Kind: api.Bytes, S: "x"}, {Kind: api.Bytes, S: "y"}},
		5: {{Kind: api.Bool}, {Kind: api.Bool, N: 1}},
		6: {{Kind: api.Long, N: -50}, {Kind: api.Long, N: 40}},
		7: {{Kind: api.Double, N: -1 << 63}, {Kind: api.Double, N: 0x3ff0000000000000}},
	} {
		for _, s := range []string{s, fileOf(then(), 5, 9, lines...), must(file.Pass(s, 9, "x"))} {
			v, has, err := scan.Least(s, id)
			if w, too, bad := scan.Most(s, id); v != want[0] || w != want[1] || !has || !too || err != nil || bad != nil {
				t.Errorf("leaf %d: %v, %v, %v, %v, %v, %v", id, v, has, err, w, too, bad)
			}
		}
	}
	// No values, and no groups.
	for _, s := range []string{fileOf(then(), 1, 1, "{a:5,b:null,g:[]}", "{a:6,b:null,g:[]}"), fileOf(then(), 1, 1)} {
		for _, id := range []int{4, 5, 6, 7} {
			mustNotTell(t, s, id, nil)
		}
	}
	mustNotTell(t, fileOf(then(), 1, 1), 1, nil)
}

func mustNotTell(t *testing.T, s string, id int, want error) {
	t.Helper()
	if v, has, err := scan.Least(s, id); v != (api.Value{}) || has || !same(err, want) {
		t.Errorf("Least, %d: %v, %v, %v, not %v", id, v, has, err, want)
	}
	if v, has, err := scan.Most(s, id); v != (api.Value{}) || has || !same(err, want) {
		t.Errorf("Most, %d: %v, %v, %v, not %v", id, v, has, err, want)
	}
}

func TestP152Errors(t *testing.T) {
	s := small()
	f := must(file.Open(s))
	for _, id := range []int{0, 2, 3, 8, 99, -1, 1000, 1001, 1<<32 + 1, -1 << 63, 1<<63 - 1} {
		mustNotTell(t, s, id, api.ErrNone)
		mustNotTell(t, spoiltChunk(s, f, 0, 1), id, api.ErrNone)
		mustNotTell(t, s[1:], id, api.ErrText)
	}
	for _, wrong := range []string{"", "x", s[1:], s[:len(s)-1], strings.Repeat("x", api.MaxData+1), spoilt(s, len(s)-20, 1)} {
		_, err := file.Open(wrong)
		mustNotTell(t, wrong, 1, err)
	}
	a, b, c, leaves := goodChunks()
	for _, x := range []struct {
		chunk string
		want  error
	}{
		{"Q" + c[1:], api.ErrText}, {badSum(c), api.ErrSum}, {c[:len(c)-1], api.ErrText}, {c + "x", api.ErrText}, {c + badSum(c), api.ErrSum}, {sealed("x"), api.ErrText}, {sealed("\x00\x00\x00"), api.ErrText},
		{sealed(stats.Text(stats.Stats{Entries: 1, Has: true, Min: api.Value{Kind: api.Bytes}, Max: api.Value{Kind: api.Bytes}})), api.ErrText},
	} {
		s := builtFile(errorText, builtGroup{2, []string{a, b, c}}, builtGroup{2, []string{a, b, x.chunk}})
		mustNotTell(t, s, 4, x.want)
		if v, has, err := scan.Most(s, 3); v.N != 7 || !has || err != nil {
			t.Error(v, has, err)
		}
	}
	// What stands behind the stats is not asked.
	long := pageOf(leaves[2], make([]int, api.MaxEntries), make([]int, api.MaxEntries))
	for _, chunk := range []string{none(c), c + c, long + long + c, pageOf(leaves[2], []int{1, 1}, []int{2, 2}, 9, 8)} {
		s := builtFile(errorText, builtGroup{2, []string{a, b, chunk}})
		v, has, err := scan.Least(s, 4)
		if w, too, bad := scan.Most(s, 4); v.N != 8 || w.N != 9 || !has || !too || err != nil || bad != nil {
			t.Error(v, has, err, w, too, bad)
		}
	}
	mustNotTell(t, builtFile(errorText, builtGroup{2, []string{a, b, ""}}), 4, nil)
}
