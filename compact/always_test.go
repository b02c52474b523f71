package compact_test

import (
	"math"
	"math/rand"
	"strconv"
	"strings"
	"testing"

	"shredcol/api"
	"shredcol/compact"
	"shredcol/data"
	"shredcol/disk"
	"shredcol/schema"
	"shredcol/table"
)

// TestP182ByTheRule: a table through many calls, some of them wrong, is what the model is.
func TestP182ByTheRule(t *testing.T) {
	r := rand.New(rand.NewSource(182))
	tells := map[string]int{}
	for range 60 {
		d, x, m := tableOf(t, 100000, "add 0 "+anyNode(r, 2))
		for range 30 {
			c := anyCall(r, m)
			next, want, wrong := m.call(c)
			got, err := c.of(x)
			mustTell(t, err, wrong)
			if got != want {
				t.Fatalf("%+v: %s, not %s", c, got, want)
			}
			if err != nil && brief(x) != m.brief() {
				t.Fatal(c, err)
			}
			m = next
			tell := c.what + " ok"
			if err != nil {
				tell = c.what + " " + bare(err).Error()
			}
			tells[tell]++
			switch r.Intn(4) {
			case 0:
				x = must(table.Open(d))
			case 1:
				must(x.Collect())
				if n := len(d.Names()); n > m.files()+2 {
					t.Fatal(n, m.files())
				}
			}
		}
		mustBe(t, x, m)
		mustStand(t, d, m)
	}
	for _, what := range []string{"compact ok", "compact shredcol: bound", "rewrite ok", "rewrite shredcol: text", "rewrite shredcol: bound"} {
		if tells[what] < 5 {
			t.Error(what, tells)
		}
	}
}

// anyIDs of a schema's nodes, one at least.
func anyIDs(r *rand.Rand, root api.Node) []int {
	ids := must(schema.Under(root, 0))
	r.Shuffle(len(ids), func(i, j int) { ids[i], ids[j] = ids[j], ids[i] })
	return ids[:1+r.Intn(len(ids))]
}

// question of a scan.
type question struct {
	ids   []int
	where string
}

// anyQuestions about the newest snapshot, that have an answer.
func anyQuestions(r *rand.Rand, x *table.Table) []question {
	all := []question{{ids: []int{0}}}
	for len(all) < 25 {
		q := question{anyIDs(r, x.Schema()), anyWhere(r, x.Schema(), 2)}
		if _, err := x.Scan(0, q.ids, q.where); err == nil {
			all = append(all, q)
		}
	}
	return all
}

// TestP182NoScanTells: what is asked of a table ahead of Compact is answered so behind it.
// Behind Rewrite, what does not satisfy is answered, and nothing else.
func TestP182NoScanTells(t *testing.T) {
	r := rand.New(rand.NewSource(1820))
	some, gone := 0, 0
	for range 60 {
		_, x, m := tableOf(t, 100000, "add 0 "+anyNode(r, 2))
		for range 8 {
			m = mustDo(t, x, m, rightCall(r, m))
		}
		if len(x.Schema().Sub) == 0 {
			continue
		}
		asked := anyQuestions(r, x)
		var answers []string
		for _, q := range asked {
			l := must(x.Scan(0, q.ids, q.where))
			answers = append(answers, told(l))
			some += min(1, len(l))
		}
		must(0, third(compact.Compact(x, 1+r.Intn(9), 1+r.Intn(9))))
		for i, q := range asked {
			if got := told(must(x.Scan(0, q.ids, q.where))); got != answers[i] {
				t.Fatalf("%+v: %s, not %s", q, got, answers[i])
			}
		}
		where := asked[1+r.Intn(len(asked)-1)].where
		if where == "" || len(where) > 1000 || strings.Count(where, "(") > 4 {
			continue
		}
		left := must(x.Scan(0, []int{0}, "!("+where+")"))
		many := len(must(x.Scan(0, []int{0}, where)))
		if n := must(compact.Rewrite(x, where, 1+r.Intn(9), 1+r.Intn(9))); n != many {
			t.Fatal(where, n, many)
		}
		if got := must(x.Scan(0, []int{0}, "")); told(got) != told(left) {
			t.Fatalf("%s: %+v, not %+v", where, got, left)
		}
		if got := must(x.Scan(0, []int{0}, where)); len(got) != 0 {
			t.Fatal(where, got)
		}
		gone += min(1, many)
	}
	if some < 200 || gone < 10 {
		t.Error(some, gone)
	}
}

func third(_, _ int, err error) error { return err }

// TestP182EditedBehind: what is edited behind it goes on as if nothing had been.
func TestP182EditedBehind(t *testing.T) {
	_, x, m := tableOf(t, 20000, addA, addG)
	m = mustDo(t, x, m, m.appendOf("{a:1,g:[{c:5}]}", "{a:2,g:[]}"), edit("widen 1"), edit("add 2 required bool d;"), compacted(1, 1))
	m = mustDo(t, x, m, edit("loosen 1"), edit("drop 3"), edit("add 2 optional bytes e;"), edit("rename 1 z"), edit("move 1 1"))
	mustBe(t, x, m)
	if got := textsOf(x); got != "{g:[{d:false,e:null}],z:1} {g:[],z:2}" {
		t.Error(got)
	}
	m = mustDo(t, x, m, rewritten("#4 = false"), edit("drop 1"), edit("drop 2"))
	if before, after, err := compact.Compact(x, 1, 1); before != 0 || after != 0 || err != api.ErrShape {
		t.Error(before, after, err)
	}
	m = mustDo(t, x, m, edit("add 0 repeated double y;"), compacted(1, 1))
	if got := textsOf(x); got != "{y:[]}" {
		t.Error(got)
	}
}

// stepsOf a call of the table that stands on d.
func stepsOf(d *disk.Disk, c call) int {
	whole := d.Copy()
	must(c.of(must(table.Open(whole))))
	return whole.Steps() - d.Steps()
}

// eachCut of the power amid a call of the table that stands on d: behind every stride's step,
// and behind each of the last ones.
func eachCut(t *testing.T, d *disk.Disk, ahead model, c call, stride int) {
	t.Helper()
	behind, want, err := ahead.call(c)
	mustTell(t, err, nil)
	all := stepsOf(d, c)
	for n := 0; n <= all; n++ {
		if n%stride > 0 && n < all-5 {
			continue
		}
		cut := d.Copy()
		x := must(table.Open(cut))
		mustTell(t, cut.Cut(n), nil)
		got, err := c.of(x)
		if n == all {
			if got != want || err != nil || n < 10 {
				t.Fatal(c, got, err, n)
			}
			mustBe(t, x, behind)
			mustStand(t, cut, behind)
			return
		}
		if strings.Trim(got, "0 ") != "" {
			t.Fatal(c, got)
		}
		mustTell(t, err, api.ErrNone)
		cut.Mend()
		mustBeLost(t, cut, x)
		y := must(table.Open(cut))
		switch brief(y) {
		case ahead.brief():
			mustDo(t, y, ahead, c)
		case behind.brief():
		default:
			t.Fatal(c, n, brief(y))
		}
		must(y.Collect())
		if many := len(cut.Names()); many > behind.files()+2 {
			t.Fatal(n, many)
		}
		mustStand(t, cut, behind)
	}
}

// mustBeLost: no call changes the table any more.
func mustBeLost(t *testing.T, d *disk.Disk, x *table.Table) {
	t.Helper()
	was := on(d)
	before, after, err := compact.Compact(x, 1, 1)
	gone, bad := compact.Rewrite(x, "#1 is null", 1, 1)
	if before != 0 || after != 0 || err != api.ErrNone || gone != 0 || bad != api.ErrNone || on(d) != was {
		t.Fatal(before, after, err, gone, bad)
	}
}

func TestP180Cuts(t *testing.T) {
	d, x, m := tableOf(t, 20000, addA)
	for i, c := range []call{compacted(1, 1), rewritten("#1 = 5"), compacted(9, 9), rewritten("#1 >= 3"), compacted(1, 1)} {
		if i > 0 {
			m = mustDo(t, x, m, m.appendOf("{a:5}", "{a:"+strconv.Itoa(i)+"}"), m.appendOf("{a:1}"))
		}
		eachCut(t, d, m, c, 1)
		m = mustDo(t, x, m, c)
	}
	mustStand(t, d, m)
}

// TestP180CutOfMany: more than one file is written.
func TestP180CutOfMany(t *testing.T) {
	d, x, m := tableOf(t, 50000, addA)
	m = appendMany(t, x, m, 220, 80)
	c := rewritten("#1 < 500")
	c.rows, c.most = 100, 20000
	eachCut(t, d, m, c, 19)
	mustStand(t, d, mustDo(t, x, m, c))
}

// TestP180Lost: also where the files are gone that it would read.
func TestP180Lost(t *testing.T) {
	d, x, m := tableOf(t, 20000, addA)
	m = mustDo(t, x, m, m.appendOf("{a:1}"), m.appendOf("{a:2}"), edit("widen 1"))
	mustTell(t, d.Cut(20), nil)
	before, after, err := compact.Compact(x, 1, 1)
	if before != 0 || after != 0 || err != api.ErrNone {
		t.Fatal(before, after, err)
	}
	mustBeLost(t, d, x)
	d.Mend()
	mustBeLost(t, d, x)
	y := must(table.Open(d))
	mustDo(t, y, m, rewritten("#1 = 1"), rewritten("#1 = 2"), compacted(1, 1), compacted(1, 1), compacted(1, 1))
	must(y.Collect())
	if n := len(d.Names()); n != 1 {
		t.Error(d.Names())
	}
	mustBeLost(t, d, x)
	// What is no call that would change it is told as ever.
	if _, err := compact.Rewrite(x, "x", 1, 1); err != api.ErrText {
		t.Error(err)
	}
	if _, _, err := compact.Compact(x, 0, 1); err != api.ErrBound {
		t.Error(err)
	}
}

// TestP180Full: a disk that is too small leaves all as it is, and nothing of the call's own.
func TestP180Full(t *testing.T) {
	ends := map[error]int{}
	for quota := 500; quota < 3000; quota += 17 {
		d, x, m := tableOf(t, quota, addA)
		for _, s := range []string{"{a:1}", "{a:2}"} {
			if _, _, err := m.call(m.appendOf(s)); err == nil && x.Append(m.appendOf(s).l, 2, 4) == nil {
				m, _, _ = m.call(m.appendOf(s))
			}
		}
		for range d.Names() {
			d.Append("other", strings.Repeat("x", 20))
		}
		for _, c := range []call{compacted(1, 1), rewritten("#1 = 1"), compacted(2, 2)} {
			next, _, _ := m.call(c)
			_, err := c.of(x)
			ends[err]++
			if err == nil {
				m = next
			} else if err != api.ErrSpace || len(d.Names()) != m.files()+1 {
				t.Error(quota, err, d.Names())
			}
			mustBe(t, x, m)
			mustStand(t, d, m)
		}
	}
	if ends[nil] < 50 {
		t.Error(ends)
	}
}

// TestP180FullOfMany: likewise where some of the files have room.
func TestP180FullOfMany(t *testing.T) {
	ends := map[error]int{}
	whole, y, n := tableOf(t, api.MaxQuota, addA)
	appendMany(t, y, n, 250, 90)
	for quota := whole.Used() + 200; quota < whole.Used()+2400; quota += 51 {
		d, x, m := tableOf(t, quota, addA)
		m = appendMany(t, x, m, 250, 90)
		c := compacted(100, 300)
		next, _, _ := m.call(c)
		_, err := c.of(x)
		ends[err]++
		if err == nil {
			m = next
		} else if err != api.ErrSpace || len(d.Names()) != m.files()+1 {
			t.Error(quota, err, d.Names())
		}
		mustBe(t, x, m)
		mustStand(t, d, m)
	}
	if ends[nil] < 5 || ends[api.ErrSpace] < 5 {
		t.Error(ends)
	}
}

// TestP180Room: of the quota that is told of both tables there is room.
func TestP180Room(t *testing.T) {
	size := func(m model) int {
		n := len(strings.Join(m.edits, ""))
		for k := range m.snaps {
			n += len(strings.Join(m.texts(k), ""))
		}
		return n
	}
	r := rand.New(rand.NewSource(1800))
	for range 30 {
		calls, m, quota := []call{edit("add 0 repeated double a;")}, newModel(), 20000
		for len(calls) < 25 {
			c := calls[len(calls)-1]
			next, _, err := m.call(c)
			mustTell(t, err, nil)
			m, quota = next, max(quota, 20000+4*size(next))
			switch r.Intn(4) {
			case 0:
				c = compacted(1+r.Intn(100), 1+r.Intn(2000))
			case 1:
				c = rewritten("#1 > " + must(data.ValueText(anyValue(r, api.Double))))
			default:
				c = call{what: "append", rows: 1 + r.Intn(9), most: 1 + r.Intn(99)}
				for range r.Intn(30) {
					c.l = append(c.l, anyDatum(r, replayed(m.edits)))
				}
			}
			calls = append(calls, c)
		}
		d := must(disk.New(min(quota, api.MaxQuota)))
		x, got := must(table.Create(d)), newModel()
		for _, c := range calls[:24] {
			got = mustDo(t, x, got, c)
		}
		mustStand(t, d, got)
	}
}

// TestP1WhateverIsGiven: no call panics, and none that answers an error changes anything.
func TestP1WhateverIsGiven(t *testing.T) {
	numbers := []int{math.MinInt, -1, 0, 1, 2, 100, 101, 20000, 20001, math.MaxInt}
	texts := []string{"", " ", "x", "#1 < 5", "#1 is null", "!#1 is null", strings.Repeat("(", 9000), strings.Repeat("#1 < 5 & ", 9000), "\x00\xff", "#1 = 99999999999"}
	for _, edits := range [][]string{nil, {addA}, {addA, "drop 1"}} {
		d, x, m := tableOf(t, 9000, edits...)
		if len(edits) == 1 {
			m = mustDo(t, x, m, m.appendOf("{a:1}", "{a:7}"))
		}
		for _, rows := range numbers {
			for _, most := range numbers {
				was := on(d)
				if before, after, err := compact.Compact(x, rows, most); err != nil && (on(d) != was || before != 0 || after != 0) {
					t.Fatal(rows, most, err)
				} else if err == nil {
					m, _, _ = m.call(compacted(rows, most))
				}
				for _, where := range texts {
					was := on(d)
					if gone, err := compact.Rewrite(x, where, rows, most); err != nil && (on(d) != was || gone != 0) {
						t.Fatal(where, err)
					} else if err == nil {
						m, _, _ = m.call(call{what: "rewrite", line: where, rows: rows, most: most})
					}
				}
			}
		}
		mustBe(t, x, m)
		mustStand(t, d, m)
	}
}

// TestP2SameCalls: two tables that were called alike are alike, on disks that are alike.
func TestP2SameCalls(t *testing.T) {
	r := rand.New(rand.NewSource(2))
	for range 10 {
		first := "add 0 " + anyNode(r, 2)
		d, x, m := tableOf(t, 4000, first)
		e, y, _ := tableOf(t, 4000, first)
		for range 20 {
			c := anyCall(r, m)
			if r.Intn(4) == 0 {
				n := r.Intn(400)
				mustTell(t, d.Cut(n), nil)
				mustTell(t, e.Cut(n), nil)
			}
			one, err1 := c.of(x)
			two, err2 := c.of(y)
			mustTell(t, err1, err2)
			if one != two || on(d) != on(e) || d.Steps() != e.Steps() {
				t.Fatal(one, two, on(d), on(e))
			}
			d.Mend()
			e.Mend()
			x, y = must(table.Open(d)), must(table.Open(e))
			m.edits = x.Edits()
		}
	}
}
