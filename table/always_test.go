package table_test

import (
	"math"
	"math/rand"
	"slices"
	"strconv"
	"strings"
	"testing"

	"shredcol/api"
	"shredcol/disk"
	"shredcol/table"
)

// TestP175ByTheRule: a table through many calls, some of them wrong, with cuts, collections
// and openings between, is what the model is.
func TestP175ByTheRule(t *testing.T) {
	r := rand.New(rand.NewSource(175))
	tells := map[error]int{}
	for range 60 {
		d := must(disk.New(60000))
		x, m := must(table.Create(d)), newModel()
		for range 40 {
			switch r.Intn(8) {
			case 0:
				x = must(table.Open(d))
			case 1:
				must(x.Collect())
				if n := len(d.Names()); n > m.files()+2 {
					t.Fatal(n, m.files())
				}
			case 2:
				c := rightCall(r, m)
				mustTell(t, d.Cut(r.Intn(150)), nil)
				err := c.of(x)
				d.Mend()
				if err != nil {
					mustTell(t, err, api.ErrNone)
				}
				x, m = found(t, d, m, must(m.call(c)))
			default:
				c := anyCall(r, m)
				next, want := m.call(c)
				mustTell(t, c.of(x), want)
				m = next
				tells[bare(want)]++
			}
		}
		mustBe(t, x, m)
		mustStand(t, d, m)
	}
	for _, err := range []error{nil, api.ErrText, api.ErrBound, api.ErrShape, api.ErrKind, api.ErrName, api.ErrNone} {
		if tells[err] < 5 {
			t.Error(err, tells[err])
		}
	}
}

// TestP173ByTheRule: any scan of any snapshot, of the table and of one that was opened.
func TestP173ByTheRule(t *testing.T) {
	r := rand.New(rand.NewSource(173))
	told1, told0 := 0, 0
	for range 40 {
		d, x, m := tableOf(60000, "add 0 "+anyNode(r, 2))
		for range 12 {
			m = mustDo(t, x, m, rightCall(r, m))
		}
		root := x.Schema()
		if len(root.Sub) == 0 {
			continue
		}
		y := must(table.Open(d))
		for range 20 {
			k, ids, where := r.Intn(x.Snapshots()), anyIDs(r, root), ""
			if r.Intn(3) > 0 {
				where = anyWhere(r, root)
			}
			want := m.scan(k, ids, where)
			for _, of := range []*table.Table{x, y} {
				if got, err := of.Scan(k, ids, where); err != nil || told(got) != told(want) {
					t.Fatalf("%q: %d, %v, %s: %+v, %v, not %+v", m.edits, k, ids, where, got, err, want)
				}
			}
			if len(want) > 0 {
				told1++
			} else {
				told0++
			}
		}
	}
	if told0 < 50 || told1 < 200 {
		t.Error(told0, told1)
	}
}

// TestP175OldSnapshots: each snapshot stays what it was, carried, until it goes.
func TestP175OldSnapshots(t *testing.T) {
	d, x, m := tableOf(20000, addA)
	var was [][]string
	for i := range 12 {
		was = append(was, must(x.Files(0)))
		if i%3 == 1 {
			m = mustDo(t, x, m, call{line: "add 0 required int " + string(rune('b'+i)) + ";"})
		}
		m = mustDo(t, x, m, call{l: []api.Datum{anyDatum(rand.New(rand.NewSource(int64(i))), x.Schema())}, rows: 1, most: 1})
		for k := range x.Snapshots() - 1 {
			if got := must(x.Files(k + 1)); !slices.Equal(got, was[len(was)-1-k]) {
				t.Fatal(i, k, got)
			}
		}
	}
	mustBe(t, x, m)
	mustStand(t, d, m)
}

// TestP175CopiedDisk: what is done on a copy of the disk is not done on it.
func TestP175CopiedDisk(t *testing.T) {
	d, x, m := tableOf(20000, addA)
	m = mustDo(t, x, m, m.appendOf("{a:1}"))
	c := d.Copy()
	y := must(table.Open(c))
	other := mustDo(t, y, m, call{line: addB})
	m = mustDo(t, x, m, m.appendOf("{a:2}"))
	mustBe(t, x, m)
	mustStand(t, d, m)
	mustBe(t, y, other)
	mustStand(t, c, other)
}

// TestP2SameCalls: two tables that were called alike are alike, on disks that are alike.
func TestP2SameCalls(t *testing.T) {
	r := rand.New(rand.NewSource(2))
	for range 10 {
		d, e := must(disk.New(3000)), must(disk.New(3000))
		x, y := must(table.Create(d)), must(table.Create(e))
		m := newModel()
		for range 40 {
			c := anyCall(r, m)
			cut := r.Intn(400)
			if r.Intn(4) == 0 {
				mustTell(t, d.Cut(cut), nil)
				mustTell(t, e.Cut(cut), nil)
			}
			one, two := c.of(x), c.of(y)
			if !same(one, two) || on(d) != on(e) || d.Steps() != e.Steps() || brief(x) != brief(y) {
				t.Fatal(one, two, on(d), on(e))
			}
			d.Mend()
			e.Mend()
			if one == nil {
				m = must(m.call(c))
			}
			x, y = must(table.Open(d)), must(table.Open(e))
			x, m = found(t, d, m, must2(m.call(c)))
		}
	}
}

// must2: with an error, the model that it was.
func must2(m model, _ error) model { return m }

// TestP4Table: what is handed over is not kept, what is answered is nobody else's.
func TestP4Table(t *testing.T) {
	d, x, m := tableOf(9000, addG, addA)
	l := recordsOf(x.Schema(), "{g:[{c:1},{c:2}],a:3}", "{g:[],a:4}")
	want := told(l)
	more := append(slices.Clone(l), api.Datum{None: true})
	mustTell(t, x.Append(more[:2:2], 1, 1), nil)
	mustTell(t, x.Append(more[:2], 1, 1), nil) // what lies behind is not read
	if told(l) != want || told(more[:2]) != want || !more[2].None {
		t.Error(l, more)
	}
	m = must(m.call(call{l: l, rows: 1, most: 1}))
	m = must(m.call(call{l: recordsOf(x.Schema(), "{g:[{c:1},{c:2}],a:3}", "{g:[],a:4}"), rows: 1, most: 1}))
	l[0].F[0].L[0].F[0].V.N, l[1].F[1].None = 99, true
	m.snaps[0][0].l = m.snaps[0][1].l
	m.snaps[1][0].l = m.snaps[0][1].l
	mustBe(t, x, m)
	for range 2 {
		edits, root, files := x.Edits(), x.Schema(), must(x.Files(0))
		edits[0], files[0] = "x", "x"
		if len(append(edits, "y"))+len(append(files, "y")) == 0 {
			t.Error()
		}
		root.Sub[0].Sub[0].Name, root.Sub[1].Kind = "x", 9
		ids := []int{2, 3}
		got := must(x.Scan(0, ids, ""))
		got[0].F[0].L[0].F[0].V.N, got[0].F[1].V.N, got[1] = 98, 98, api.Datum{}
		if !slices.Equal(ids, []int{2, 3}) {
			t.Error(ids)
		}
		ids[0] = 9
		mustBe(t, x, m)
	}
	mustStand(t, d, m)
}

// TestP1WhateverIsGiven: no call panics, and none that answers an error changes anything.
func TestP1WhateverIsGiven(t *testing.T) {
	numbers := []int{math.MinInt, -1, 0, 1, 2, 100, 101, 20000, 20001, math.MaxInt}
	texts := []string{"", " ", "x", "#1 < 5", "#1 is null", "drop 1", addA, strings.Repeat("(", 9000), strings.Repeat("drop 1 ", 9000), "\x00\xff", "add 0 " + strings.Repeat("required group a { ", 500)}
	lists := [][]api.Datum{nil, {}, {{}}, {{None: true}}, {{L: []api.Datum{{}}}}, {{F: []api.Datum{{}}}}, {{F: []api.Datum{{V: api.Value{Kind: api.Int, N: 1 << 40}}}}}, slices.Repeat([]api.Datum{{}}, 101)}
	for _, edits := range [][]string{nil, {addA}, {addA, "drop 1"}} {
		d, x, m := tableOf(9000, edits...)
		for _, one := range numbers {
			for _, two := range numbers {
				for _, l := range lists {
					was := on(d)
					if err := x.Append(l, one, two); err != nil && on(d) != was {
						t.Fatal(one, two, l, err)
					} else if err == nil {
						m = must(m.call(call{l: l, rows: one, most: two}))
					}
				}
			}
			for _, s := range texts {
				x.Scan(one, numbers, s)
				x.Scan(one, []int{0, one}, s)
				x.Scan(0, []int{one}, s)
				x.Scan(0, nil, s)
			}
			x.Files(one)
		}
		for _, s := range texts {
			if err := x.Edit(s); err == nil {
				m = must(m.call(call{line: s}))
			}
		}
		mustBe(t, x, m)
		mustStand(t, d, m)
	}
}

// TestP175FilledAndEmptied: a table goes on for as long as there are edits, whatever the
// disk was filled with.
func TestP175FilledAndEmptied(t *testing.T) {
	d, x, m := tableOf(4000, addA)
	for i := range 59 {
		for k := range i % 7 {
			d.Append("a"+strconv.Itoa(k), strings.Repeat("x", i*7))
		}
		m = mustDo(t, x, m, call{line: "rename 1 " + string(rune('a'+i%26))})
		if i < 15 {
			m = mustDo(t, x, m, m.appendOf("{"+x.Schema().Sub[0].Name+":"+strconv.Itoa(i)+"}"))
		}
	}
	mustBe(t, x, m)
	mustStand(t, d, m)
}
