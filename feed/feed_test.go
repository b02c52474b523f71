package feed_test

import (
	"math"
	"slices"
	"strconv"
	"strings"
	"testing"

	"shredcol/api"
	"shredcol/data"
	"shredcol/feed"
	"shredcol/table"
)

const (
	addA = "add 0 required int a;"
	addB = "add 0 optional bytes b;"
	addG = "add 0 repeated group g { required int c; }"
)

// totalBy so many workers.
func totalBy(x *table.Table, snapshot, id, workers int) total {
	entries, nulls, has, least, most, err := feed.Total(x, snapshot, id, workers)
	return total{entries, nulls, has, least, most, err}
}

// seer keeps the texts of so many records.
type seer struct {
	root   api.Node
	enough int
	texts  []string
}

func (s *seer) See(d api.Datum) bool {
	s.texts = append(s.texts, must(data.Text(s.root, d)))
	return len(s.texts) != s.enough
}

func (s *seer) told() string { return strings.Join(s.texts, " ") }

// threeFiles under schemas that changed: a #1, b #2, g #3 { c #4, d #5 }.
func threeFiles() *both {
	b := tableOf(addA, addB)
	b.put(`{a:1,b:"x"}`, `{a:-2,b:null}`, `{a:3,b:""}`)
	b.edit(addG)
	b.put(`{a:4,b:"y",g:[{c:7},{c:8}]}`, `{a:5,b:null,g:[]}`)
	b.put()
	b.edit("widen 1")
	b.edit("add 3 optional double d;")
	b.edit("move 3 0")
	b.put(`{g:[{c:9,d:null}],a:9000000000,b:"xx"}`)
	return b
}

func TestP190Known(t *testing.T) {
	x := threeFiles().table
	for _, c := range []struct {
		snapshot int
		ids      []int
		where    string
		want     string
	}{
		{0, []int{0}, "", `{g:[],a:1,b:"x"} {g:[],a:-2,b:null} {g:[],a:3,b:""} {g:[{c:7,d:null},{c:8,d:null}],a:4,b:"y"} {g:[],a:5,b:null} {g:[{c:9,d:null}],a:9000000000,b:"xx"}`},
		{0, []int{1}, "", `{a:1} {a:-2} {a:3} {a:4} {a:5} {a:9000000000}`},
		{0, []int{1}, "#2 is null | #4 > 7", `{a:-2} {a:4} {a:5} {a:9000000000}`},
		{0, []int{2, 4}, "#1 >= 3", `{g:[],b:""} {g:[{c:7},{c:8}],b:"y"} {g:[],b:null} {g:[{c:9}],b:"xx"}`},
		{0, []int{1}, "#1 > 9000000000", ``},
		{1, []int{1}, "", `{a:1} {a:-2} {a:3} {a:4} {a:5}`},
		{2, []int{1}, "", `{a:1} {a:-2} {a:3} {a:4} {a:5}`},
		{3, []int{3, 1}, "#1 != 3", `{g:[],a:1} {g:[],a:-2}`},
	} {
		for workers := 1; workers <= 16; workers++ {
			l, err := feed.Scan(x, c.snapshot, c.ids, c.where, workers)
			if err != nil {
				t.Fatal(c, workers, err)
			}
			if got := textsOf(x, c.ids, l); got != c.want {
				t.Fatal(c, workers, got)
			}
		}
	}
}

// TestP190NoFiles: a snapshot without files has no records, but the errors are told.
func TestP190NoFiles(t *testing.T) {
	b := tableOf(addA)
	if l, err := feed.Scan(b.table, 0, []int{0}, "", 16); len(l) != 0 || err != nil {
		t.Error(l, err)
	}
	if got := totalBy(b.table, 0, 1, 16); got != (total{}) {
		t.Error(got)
	}
	if err := feed.Each(b.table, 0, []int{0}, "", 16, &seer{}); err != nil {
		t.Error(err)
	}
	b.put()
	if l, err := feed.Scan(b.table, 0, []int{0}, "", 16); len(l) != 0 || err != nil {
		t.Error(l, err)
	}
	if got := totalBy(b.table, 0, 1, 16); got != (total{}) {
		t.Error(got)
	}
}

// spoilt: each of these files of the newest snapshot was changed behind the table.
func spoilt(b *both, files ...int) {
	for _, i := range files {
		text := must(b.table.Files(0))[i]
		for _, name := range b.disk.Names() {
			if must(b.disk.Read(name)) == text {
				defer b.disk.Append(name, "x")
			}
		}
	}
}

// question of a scan, and the error that it has.
type question struct {
	snapshot, workers int
	ids               []int
	where             string
	want              error
}

func wrongQuestions() []question {
	all := []int{0}
	long := "#1 > 1" + strings.Repeat(" | #1 > 1", 1000)
	return []question{
		{-1, 1, all, "", api.ErrBound}, {2, 1, all, "", api.ErrBound}, {math.MinInt, 1, all, "", api.ErrBound}, {math.MaxInt, 1, all, "", api.ErrBound},
		{2, 0, []int{9}, "x", api.ErrBound}, {-1, 17, nil, "", api.ErrBound},
		{0, 0, all, "", api.ErrShape}, {0, -1, all, "", api.ErrShape}, {0, 17, all, "", api.ErrShape}, {1, math.MaxInt, all, "", api.ErrShape}, {1, math.MinInt, all, "", api.ErrShape},
		{0, 0, []int{9}, "x", api.ErrShape}, {0, 17, nil, "", api.ErrShape},
		{0, 1, all, "x", api.ErrText}, {0, 16, all, " ", api.ErrText}, {1, 1, all, "-", api.ErrText}, {0, 3, all, "#2 < 1", api.ErrText}, {0, 1, []int{9}, "x", api.ErrText},
		{0, 1, all, long, api.ErrBound}, {0, 1, []int{9}, strings.Repeat("(", 7) + "#1 > 1" + strings.Repeat(")", 7), api.ErrBound},
	}
}

func TestP190Errors(t *testing.T) {
	b := tableOf(addA)
	b.put("{a:1}", "{a:2}")
	was := on(b.disk)
	for _, q := range wrongQuestions() {
		if l, err := feed.Scan(b.table, q.snapshot, q.ids, q.where, q.workers); len(l) != 0 || err != q.want {
			t.Errorf("%.40v: %v, %v", q, l, err)
		}
	}
	for _, ids := range [][]int{{9}, {1, 9}, nil, {}, {-1}, {math.MaxInt}} {
		_, want := b.table.Scan(0, ids, "")
		if l, err := feed.Scan(b.table, 0, ids, "", 2); len(l) != 0 || err != want || err == nil {
			t.Error(ids, l, err, want)
		}
	}
	if on(b.disk) != was {
		t.Error("the disk is not as it was")
	}
}

// TestP190NoNodes: what is asked of a schema without nodes, with files or without.
func TestP190NoNodes(t *testing.T) {
	none, dropped := tableOf(), tableOf(addA)
	dropped.put("{a:1}")
	dropped.edit("drop 1")
	for _, b := range []*both{none, dropped} {
		for _, q := range []question{{0, 1, []int{0}, "", api.ErrShape}, {0, 1, []int{9}, "x", api.ErrShape}, {0, 1, nil, "", api.ErrShape}, {0, 0, nil, "", api.ErrShape}, {9, 0, nil, "", api.ErrBound}} {
			l, err := feed.Scan(b.table, q.snapshot, q.ids, q.where, q.workers)
			if len(l) != 0 || err != q.want {
				t.Error(q, l, err)
			}
			mustTell(t, feed.Each(b.table, q.snapshot, q.ids, q.where, q.workers, &seer{}), q.want)
		}
		if got := totalBy(b.table, 0, 1, 1); got != (total{err: api.ErrNone}) {
			t.Error(got)
		}
		if got := totalBy(b.table, 0, 0, 1); got != (total{err: api.ErrNone}) {
			t.Error(got)
		}
	}
}

// TestP190SpoiltFiles: they are told as Table.Scan tells them, behind what is wrong with the
// question; Each has handed over no record then.
func TestP190SpoiltFiles(t *testing.T) {
	for _, files := range [][]int{{0}, {3}, {1, 2}, {0, 1, 2, 3}} {
		b := tableOf(addA)
		for i := range 4 {
			b.put("{a:" + strconv.Itoa(i) + "}")
		}
		spoilt(b, files...)
		for workers := 1; workers <= 16; workers++ {
			l, err := feed.Scan(b.table, 0, []int{0}, "", workers)
			if len(l) != 0 || err != api.ErrText {
				t.Fatal(files, workers, l, err)
			}
			s := &seer{root: b.root()}
			mustTell(t, feed.Each(b.table, 0, []int{0}, "", workers, s), api.ErrText)
			if len(s.texts) != 0 {
				t.Fatal(files, workers, s.texts)
			}
			if got := totalBy(b.table, 0, 1, workers); got != (total{err: api.ErrText}) {
				t.Fatal(files, workers, got)
			}
		}
		if got := totalBy(b.table, 0, 2, 1); got != (total{err: api.ErrNone}) {
			t.Error(got)
		}
		_, want := b.table.Scan(0, []int{9}, "")
		if l, err := feed.Scan(b.table, 0, []int{9}, "", 1); len(l) != 0 || err != want || err == api.ErrText {
			t.Error(l, err, want)
		}
	}
}

func TestP191Known(t *testing.T) {
	x := threeFiles().table
	ids := []int{1}
	const all = "{a:1} {a:-2} {a:3} {a:4} {a:5} {a:9000000000}"
	for enough := range 9 {
		want := all
		if l := strings.Split(all, " "); enough > 0 {
			want = strings.Join(l[:min(enough, len(l))], " ")
		}
		for workers := 1; workers <= 16; workers++ {
			l := must(feed.Scan(x, 0, ids, "", 1))
			s := &seer{root: x.Schema(), enough: enough}
			s.root.Sub = s.root.Sub[1:2]
			err := feed.Each(x, 0, ids, "", workers, s)
			if err != nil || s.told() != want || len(l) != 6 {
				t.Fatal(enough, workers, s.told(), err)
			}
		}
	}
	s := &seer{root: x.Schema()}
	mustTell(t, feed.Each(x, 2, []int{0}, "#4 = 8", 3, s), nil)
	if s.told() != `{g:[{c:7,d:null},{c:8,d:null}],a:4,b:"y"}` {
		t.Error(s.told())
	}
	mustTell(t, feed.Each(x, 0, []int{0}, "#4 = 5", 3, nil), nil) // nobody is asked
}

func TestP191Errors(t *testing.T) {
	b := tableOf(addA)
	b.put("{a:1}", "{a:2}")
	for _, q := range wrongQuestions() {
		s := &seer{root: b.root()}
		if err := feed.Each(b.table, q.snapshot, q.ids, q.where, q.workers, s); err != q.want || len(s.texts) > 0 {
			t.Errorf("%.40v: %v, %v", q, s.texts, err)
		}
	}
	_, want := b.table.Scan(0, []int{9}, "")
	mustTell(t, feed.Each(b.table, 0, []int{9}, "", 1, nil), want)
}

func whole(n int64) api.Value { return api.Value{Kind: api.Int, N: n} }

func long(n int64) api.Value { return api.Value{Kind: api.Long, N: n} }

func text(s string) api.Value { return api.Value{Kind: api.Bytes, S: s} }

func TestP192Known(t *testing.T) {
	x := threeFiles().table
	for _, c := range []struct {
		snapshot, id int
		want         total
	}{
		{0, 1, total{6, 0, true, long(-2), long(9000000000), nil}},
		{1, 1, total{5, 0, true, long(-2), long(5), nil}},
		{3, 1, total{3, 0, true, long(-2), long(3), nil}},
		{0, 2, total{6, 2, true, text(""), text("y"), nil}},
		{0, 4, total{7, 4, true, whole(7), whole(9), nil}},
		{1, 4, total{6, 4, true, whole(7), whole(8), nil}},
		{3, 4, total{3, 3, false, api.Value{}, api.Value{}, nil}},
		{0, 5, total{7, 7, false, api.Value{}, api.Value{}, nil}},
	} {
		for workers := 1; workers <= 16; workers++ {
			if got := totalBy(x, c.snapshot, c.id, workers); got != c.want {
				t.Fatalf("%d, #%d, %d: %+v, not %+v", c.snapshot, c.id, workers, got, c.want)
			}
		}
	}
}

// TestP192LeavesThatCameIn: of records that are older than the leaf it is what they are
// carried to.
func TestP192LeavesThatCameIn(t *testing.T) {
	b := tableOf(addA, addG)
	b.put("{a:1,g:[{c:1},{c:2}]}", "{a:2,g:[]}")
	b.put("{a:3,g:[{c:3}]}")
	b.edit("add 0 required bytes x;") // 4
	b.edit("add 2 required int y;")   // 5
	b.edit("add 2 repeated bool z;")  // 6
	b.edit("add 0 required long w;")  // 7
	b.edit("loosen 7")
	for id, want := range map[int]total{
		4: {3, 0, true, text(""), text(""), nil},
		5: {4, 1, true, whole(0), whole(0), nil},
		6: {4, 4, false, api.Value{}, api.Value{}, nil},
		7: {3, 3, false, api.Value{}, api.Value{}, nil},
	} {
		if got := totalBy(b.table, 0, id, 2); got != want {
			t.Errorf("#%d: %+v, not %+v", id, got, want)
		}
	}
	b.edit("drop 1")
	b.edit("rename 5 v")
	if got := totalBy(b.table, 0, 5, 2); got != (total{4, 1, true, whole(0), whole(0), nil}) {
		t.Error(got)
	}
	if got := totalBy(b.table, 0, 1, 2); got != (total{err: api.ErrNone}) {
		t.Error(got)
	}
}

// TestP192MoreThanOneColumnHas: all files together have more entries than a column may have.
func TestP192MoreThanOneColumnHas(t *testing.T) {
	b := tableOf("add 0 repeated int a;")
	one := api.Datum{F: []api.Datum{{L: slices.Repeat([]api.Datum{{V: whole(5)}}, 40)}}}
	for i := range 15 {
		one.F[0].L[i] = api.Datum{V: whole(int64(i * i))}
		b.append(slices.Repeat([]api.Datum{one}, 100), 100, 20000)
		one.F[0].L = slices.Clone(one.F[0].L)
	}
	for _, workers := range []int{1, 4, 16} {
		if got := totalBy(b.table, 0, 1, workers); got != (total{15 * 100 * 40, 0, true, whole(0), whole(196), nil}) {
			t.Error(workers, got)
		}
	}
	if l := must(feed.Scan(b.table, 0, []int{0}, "", 7)); len(l) != 1500 {
		t.Error(len(l))
	}
}

func TestP192Errors(t *testing.T) {
	b := tableOf(addA, addG)
	b.put("{a:1,g:[]}")
	for _, c := range []struct {
		snapshot, id, workers int
		want                  error
	}{
		{-1, 1, 1, api.ErrBound}, {2, 1, 1, api.ErrBound}, {2, 9, 0, api.ErrBound}, {math.MaxInt, 1, 1, api.ErrBound}, {math.MinInt, 1, 1, api.ErrBound},
		{0, 1, 0, api.ErrShape}, {0, 9, 17, api.ErrShape}, {1, 1, -1, api.ErrShape}, {1, 1, math.MaxInt, api.ErrShape}, {1, 1, math.MinInt, api.ErrShape},
		{0, 9, 1, api.ErrNone}, {0, 0, 16, api.ErrNone}, {0, 2, 1, api.ErrNone}, {1, -1, 1, api.ErrNone}, {0, math.MaxInt, 1, api.ErrNone}, {0, math.MinInt, 1, api.ErrNone},
	} {
		if got := totalBy(b.table, c.snapshot, c.id, c.workers); got != (total{err: c.want}) {
			t.Errorf("%+v: %+v", c, got)
		}
	}
}
