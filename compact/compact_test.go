package compact_test

import (
	"fmt"
	"math"
	"math/rand"
	"slices"
	"strconv"
	"strings"
	"testing"

	"shredcol/api"
	"shredcol/compact"
	"shredcol/data"
	"shredcol/disk"
	"shredcol/file"
	"shredcol/table"
)

const (
	addA   = "add 0 required int a;"
	addB   = "add 0 optional bytes b;"
	addInt = "add 0 required int n;"
	addG   = "add 0 repeated group g { required int c; }"
)

// textsOf the newest snapshot's records.
func textsOf(x *table.Table) string {
	var out []string
	for _, d := range must(x.Scan(0, []int{0}, "")) {
		out = append(out, must(data.Text(x.Schema(), d)))
	}
	return strings.Join(out, " ")
}

func TestP180Known(t *testing.T) {
	d, x, m := tableOf(t, 20000, addA, addG)
	m = mustDo(t, x, m, m.appendOf("{a:1,g:[]}", "{a:2,g:[{c:7},{c:8}]}"))
	m = mustDo(t, x, m, edit("widen 1"), edit("add 2 optional bytes d;"), edit("move 1 1"), edit("rename 1 n"))
	m = mustDo(t, x, m, m.appendOf(), m.appendOf(`{g:[{c:9,d:"x"}],n:3}`))
	was := must(x.Files(0))
	before, after, err := compact.Compact(x, 2, 4)
	if before != 3 || after != 1 || err != nil {
		t.Fatal(before, after, err)
	}
	const want = `{g:[],n:1} {g:[{c:7,d:null},{c:8,d:null}],n:2} {g:[{c:9,d:"x"}],n:3}`
	if got := textsOf(x); got != want {
		t.Error(got)
	}
	files := must(x.Files(0))
	root, l, err := file.Read(files[0])
	if len(files) != 1 || err != nil || fmt.Sprint(root) != fmt.Sprint(x.Schema()) || len(l) != 3 {
		t.Error(len(files), root, l, err)
	}
	if groups := must(file.Open(files[0])).Groups; len(groups) != 2 || groups[0].Records != 2 {
		t.Error(groups)
	}
	if got := must(x.Files(1)); !slices.Equal(got, was) || x.Snapshots() != 4 {
		t.Error(got, x.Snapshots())
	}
	next, _, _ := m.call(compacted(2, 4))
	mustBe(t, x, next)
	mustStand(t, d, next)
	// Behind it the table goes on.
	next = mustDo(t, x, next, next.appendOf(`{g:[],n:4}`), edit("drop 2"), compacted(1, 1))
	mustStand(t, d, next)
	if got := textsOf(x); got != "{n:1} {n:2} {n:3} {n:4}" {
		t.Error(got)
	}
}

// appendMany records {a:..}, in files of so many.
func appendMany(t *testing.T, x *table.Table, m model, many, each int) model {
	t.Helper()
	for at := 0; at < many; at += each {
		var texts []string
		for i := at; i < min(at+each, many); i++ {
			texts = append(texts, "{a:"+strconv.Itoa(i*7919%10007)+"}")
		}
		c := m.appendOf(texts...)
		c.rows, c.most = 100, 100
		m = mustDo(t, x, m, c)
	}
	return m
}

// TestP180Files: as few as hold 100 records each.
func TestP180Files(t *testing.T) {
	for _, c := range []struct{ many, each, before, after int }{
		{0, 1, 0, 0}, {1, 1, 1, 1}, {20, 1, 20, 1}, {99, 5, 20, 1}, {100, 99, 2, 1}, {101, 51, 2, 2},
		{199, 10, 20, 2}, {200, 67, 3, 2}, {201, 67, 3, 3}, {999, 50, 20, 10}, {1801, 99, 19, 19},
	} {
		d, x, m := tableOf(t, api.MaxQuota, addA)
		m = appendMany(t, x, m, c.many, c.each)
		was := textsOf(x)
		before, after, err := compact.Compact(x, 30, 20)
		if before != c.before || after != c.after || err != nil {
			t.Errorf("%+v: %d, %d, %v", c, before, after, err)
		}
		files := must(x.Files(0))
		for i, s := range files {
			if _, l, err := file.Read(s); err != nil || len(l) != min(100, c.many-100*i) {
				t.Error(c, i, len(l), err)
			}
		}
		if len(files) != c.after || textsOf(x) != was {
			t.Error(c, len(files))
		}
		next, _, _ := m.call(compacted(30, 20))
		mustStand(t, d, next)
	}
}

// TestP180Again: what is small is made small again, and is what it was.
func TestP180Again(t *testing.T) {
	d, x, m := tableOf(t, 20000, addA)
	m = mustDo(t, x, m, compacted(1, 1), compacted(1, 1)) // no files at all
	if x.Snapshots() != 3 {
		t.Error(x.Snapshots())
	}
	m = mustDo(t, x, m, m.appendOf(), m.appendOf(), compacted(1, 1)) // files without records
	if len(must(x.Files(0))) != 0 || len(must(x.Files(1))) != 2 || x.Snapshots() != 4 {
		t.Error(brief(x))
	}
	m = mustDo(t, x, m, m.appendOf("{a:1}"), m.appendOf("{a:2}"))
	for range 6 {
		m = mustDo(t, x, m, compacted(1, 1))
		must(x.Collect())
		if n := len(d.Names()); n > m.files()+2 {
			t.Error(n, m.files())
		}
	}
	if n := len(d.Names()); n > 3 {
		t.Error(n) // four snapshots of one file, which is there once
	}
	mustStand(t, d, m)
}

func TestP180Errors(t *testing.T) {
	d, x, m := tableOf(t, 20000, addA)
	m = mustDo(t, x, m, m.appendOf("{a:1}"), m.appendOf("{a:2}"))
	_, dropped, n := tableOf(t, 20000, addA)
	mustDo(t, dropped, n, n.appendOf("{a:1}"), edit("drop 1"))
	_, none, _ := tableOf(t, 20000)
	_, empty, _ := tableOf(t, 20000, addA)
	was := on(d)
	for _, c := range [][2]int{{0, 1}, {-1, 1}, {101, 1}, {math.MinInt, 1}, {math.MaxInt, 1}, {1, 0}, {1, -1}, {1, 20001}, {1, math.MaxInt}, {0, 0}} {
		for _, y := range []*table.Table{x, empty} {
			before, after, err := compact.Compact(y, c[0], c[1])
			gone, bad := compact.Rewrite(y, "#1 > 1", c[0], c[1])
			if before != 0 || after != 0 || err != api.ErrBound || gone != 0 || bad != api.ErrBound {
				t.Error(c, before, after, err, gone, bad)
			}
		}
		for _, y := range []*table.Table{none, dropped} {
			before, after, err := compact.Compact(y, c[0], c[1])
			if before != 0 || after != 0 || err != api.ErrShape {
				t.Error(c, before, after, err)
			}
		}
	}
	for _, y := range []*table.Table{none, dropped} {
		if before, after, err := compact.Compact(y, 1, 1); before != 0 || after != 0 || err != api.ErrShape {
			t.Error(before, after, err)
		}
	}
	if on(d) != was {
		t.Error("the disk is not as it was")
	}
	mustDo(t, x, m, compacted(100, 20000), compacted(1, 1))
}

// mustNot change anything, but tell that error.
func mustNot(t *testing.T, d *disk.Disk, x *table.Table, m model, c call, want error) {
	t.Helper()
	got, err := c.of(x)
	if err != want || strings.Trim(got, "0 ") != "" {
		t.Fatal(got, err, want)
	}
	mustBe(t, x, m)
	mustStand(t, d, m)
}

// listOf n values that f makes.
func listOf(n int, f func() api.Datum) api.Datum {
	var d api.Datum
	for range n {
		d.L = append(d.L, f())
	}
	return d
}

// TestP180TooLong: records that are files by themselves, and are none together.
func TestP180TooLong(t *testing.T) {
	r := rand.New(rand.NewSource(180))
	long := func() api.Datum {
		b := make([]byte, 99)
		r.Read(b)
		return api.Datum{V: api.Value{Kind: api.Bytes, S: string(b)}}
	}
	d, x, m := tableOf(t, api.MaxQuota, "add 0 repeated bytes a;", addInt)
	for i := range 2 {
		c := call{what: "append", rows: 100, most: 20000}
		for range 30 {
			number := api.Datum{V: api.Value{Kind: api.Int, N: int64(i)}}
			c.l = append(c.l, api.Datum{F: []api.Datum{listOf(40, long), number}})
		}
		m = mustDo(t, x, m, c)
	}
	for _, c := range []call{compacted(100, 20000), compacted(1, 1), rewritten("#1 is null")} {
		_, _, err := m.call(c)
		mustTell(t, err, api.ErrBound)
		mustNot(t, d, x, m, c, api.ErrBound)
	}
	mustStand(t, d, mustDo(t, x, m, rewritten("#2 = 1")))
}

// TestP180TooManyEntries: likewise of a column's entries.
func TestP180TooManyEntries(t *testing.T) {
	d, x, m := tableOf(t, api.MaxQuota, "add 0 repeated group a { repeated bool b; }")
	yes := func() api.Datum { return api.Datum{V: api.Value{Kind: api.Bool, N: 1}} }
	in := func() api.Datum { return api.Datum{F: []api.Datum{listOf(40, yes)}} }
	one := api.Datum{F: []api.Datum{listOf(40, in)}} // 1600 entries
	for range 2 {
		m = mustDo(t, x, m, call{what: "append", l: slices.Repeat([]api.Datum{one}, 7), rows: 100, most: 20000})
	}
	_, _, err := m.call(compacted(100, 20000))
	mustTell(t, err, api.ErrBound)
	mustNot(t, d, x, m, compacted(100, 20000), api.ErrBound)
	m = mustDo(t, x, m, edit("drop 2"), edit("add 0 required int c;"))
	mustStand(t, d, mustDo(t, x, m, compacted(100, 20000)))
	if !strings.HasPrefix(textsOf(x), "{c:0} {c:0} ") {
		t.Error(textsOf(x))
	}
}

// TestP180TooManyFiles: 20 files more than 20 others have no room on a disk, until those go.
func TestP180TooManyFiles(t *testing.T) {
	d, x, m := tableOf(t, api.MaxQuota, addA)
	m = appendMany(t, x, m, 2000, 100)
	mustNot(t, d, x, m, compacted(50, 100), api.ErrBound)
	m = mustDo(t, x, m, compacted(100, 100)) // the same files
	m = mustDo(t, x, m, rewritten("#1 >= 5000"))
	m = mustDo(t, x, m, rewritten("#1 >= 2500"), rewritten("#1 >= 0"))
	mustStand(t, d, m)
}

func TestP181Known(t *testing.T) {
	d, x, m := tableOf(t, 20000, addA)
	m = mustDo(t, x, m, m.appendOf("{a:1}", "{a:2}", "{a:3}"), edit(addB))
	m = mustDo(t, x, m, m.appendOf(`{a:4,b:"x"}`, `{a:5,b:null}`, `{a:2,b:"y"}`))
	for _, c := range []struct {
		where string
		gone  int
		left  string
	}{
		{`#1 > 9`, 0, `{a:1,b:null} {a:2,b:null} {a:3,b:null} {a:4,b:"x"} {a:5,b:null} {a:2,b:"y"}`},
		{`#1 = 2`, 2, `{a:1,b:null} {a:3,b:null} {a:4,b:"x"} {a:5,b:null}`},
		{`!(#1 < 5) & #2 is null`, 1, `{a:1,b:null} {a:3,b:null} {a:4,b:"x"}`},
		{`#2 = "x" | #1 = 1`, 2, `{a:3,b:null}`},
		{`!#2 = "x"`, 1, ``},
		{`#1 = 1`, 0, ``},
	} {
		next, told, err := m.call(rewritten(c.where))
		mustTell(t, err, nil)
		gone, err := compact.Rewrite(x, c.where, 4, 8)
		if gone != c.gone || told != strconv.Itoa(gone) || err != nil {
			t.Errorf("%s: %d, %v", c.where, gone, err)
		}
		if got := textsOf(x); got != c.left {
			t.Errorf("%s: %s", c.where, got)
		}
		if n := len(must(x.Files(0))); n != min(1, len(c.left)) {
			t.Errorf("%s: %d files", c.where, n)
		}
		m = next
		mustBe(t, x, m)
		mustStand(t, d, m)
	}
}

// TestP181Files: what is left stands in as few files as hold it.
func TestP181Files(t *testing.T) {
	for _, c := range []struct{ below, after int }{{0, 3}, {1, 3}, {49, 3}, {50, 2}, {51, 2}, {150, 1}, {249, 1}, {250, 0}} {
		d, x, m := tableOf(t, api.MaxQuota, addA)
		for at := 0; at < 250; at += 25 {
			var texts []string
			for i := range 25 {
				texts = append(texts, "{a:"+strconv.Itoa(at+i)+"}")
			}
			m = mustDo(t, x, m, m.appendOf(texts...))
		}
		gone, err := compact.Rewrite(x, "#1 < "+strconv.Itoa(c.below), 4, 8)
		files := must(x.Files(0))
		if gone != c.below || err != nil || len(files) != c.after {
			t.Error(c, gone, err, len(files))
		}
		next, _, _ := m.call(rewritten("#1 < " + strconv.Itoa(c.below)))
		mustStand(t, d, next)
	}
}

// TestP181Errors: those of the predicate are told ahead of all.
func TestP181Errors(t *testing.T) {
	_, none, _ := tableOf(t, 20000)
	d, x, m := tableOf(t, 20000, addA)
	m = mustDo(t, x, m, m.appendOf("{a:1}"))
	was := on(d)
	long := "#1 > 1" + strings.Repeat(" | #1 > 1", 1000)
	deep := strings.Repeat("(", 7) + "#1 > 1" + strings.Repeat(")", 7)
	for _, c := range []struct {
		where string
		want  error
	}{
		{"", api.ErrText}, {" ", api.ErrText}, {"-", api.ErrText}, {"x", api.ErrText}, {"#1 > 1 ", api.ErrText}, {"#2 > 1", api.ErrText}, {`#1 = "x"`, api.ErrText},
		{"#0 is null", api.ErrText}, {"\xff", api.ErrText}, {long, api.ErrBound}, {deep, api.ErrBound},
	} {
		for _, sizes := range [][2]int{{1, 1}, {0, 1}, {1, 20001}} {
			if gone, err := compact.Rewrite(x, c.where, sizes[0], sizes[1]); gone != 0 || err != c.want {
				t.Errorf("%.20q: %d, %v, not %v", c.where, gone, err, c.want)
			}
			if gone, err := compact.Rewrite(none, c.where, sizes[0], sizes[1]); gone != 0 || err != api.ErrShape {
				t.Errorf("%.20q: %d, %v", c.where, gone, err)
			}
		}
	}
	if on(d) != was {
		t.Error("the disk is not as it was")
	}
	mustBe(t, x, m)
}

// TestP181AsLongAsMayBe: a predicate that could not stand in another `!` or bracket.
func TestP181AsLongAsMayBe(t *testing.T) {
	_, x, m := tableOf(t, 20000, addA)
	m = mustDo(t, x, m, m.appendOf("{a:1}", "{a:2}", "{a:3}"))
	long := "#1 = 1" + strings.Repeat(" | #1 = 2", (api.MaxText-6)/9)
	m = mustDo(t, x, m, rewritten(long))
	if got := textsOf(x); got != "{a:3}" || len(long) < 7990 {
		t.Error(got)
	}
	m = mustDo(t, x, m, m.appendOf("{a:1}"), rewritten(strings.Repeat("!(", 3)+"#1 = 1"+strings.Repeat(")", 3)))
	mustBe(t, x, m)
	if got := textsOf(x); got != "{a:1}" {
		t.Error(got)
	}
}
