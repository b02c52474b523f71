package feed_test

import (
	"math"
	"math/rand"
	"runtime"
	"slices"
	"strings"
	"sync"
	"testing"

	"shredcol/api"
	"shredcol/feed"
	"shredcol/table"
)

// list of what is seen.
type list struct {
	l      []api.Datum
	enough int
}

func (s *list) See(d api.Datum) bool {
	s.l = append(s.l, d)
	return len(s.l) != s.enough
}

// TestP193ByTheRule: any scan of any snapshot is what the model tells, by each number of workers.
func TestP193ByTheRule(t *testing.T) {
	r := rand.New(rand.NewSource(193))
	some, none, wrong := 0, 0, 0
	for range 40 {
		b := anyTable(r, 5+r.Intn(20))
		for range 12 {
			k, ids, where := r.Intn(b.table.Snapshots()), anyIDs(r, b.root()), anyWhere(r, b.root(), 2)
			_, err := b.table.Scan(k, ids, where)
			var want []api.Datum
			if err == nil {
				want = b.scan(k, ids, where)
			} else {
				wrong++
			}
			workers := 1 + r.Intn(16)
			got, bad := feed.Scan(b.table, k, ids, where, workers)
			if told(got) != told(want) || bad != err {
				t.Fatalf("%q: %d, %v, %s by %d: %+v, %v, not %+v, %v", b.edits, k, ids, where, workers, got, bad, want, err)
			}
			s := &list{enough: r.Intn(9)}
			bad = feed.Each(b.table, k, ids, where, workers, s)
			if s.enough > 0 {
				want = want[:min(len(want), s.enough)]
			}
			if told(s.l) != told(want) || bad != err {
				t.Fatalf("%q: %d, %v, %s by %d: %+v, %v, not %+v, %v", b.edits, k, ids, where, workers, s.l, bad, want, err)
			}
			some += min(1, len(want))
			none += 1 - min(1, len(want))
		}
	}
	if some < 200 || none < 50 || wrong < 20 {
		t.Error(some, none, wrong)
	}
}

// TestP192ByTheRule: of each leaf of any snapshot.
func TestP192ByTheRule(t *testing.T) {
	r := rand.New(rand.NewSource(192))
	values, nulls, no := 0, 0, 0
	for range 30 {
		b := anyTable(r, 5+r.Intn(20))
		for k := range b.snaps {
			for _, id := range idsOf(b.root()) {
				want := b.total(k, id)
				if !isLeaf(b.root(), id) {
					want = total{err: api.ErrNone}
				}
				workers := 1 + r.Intn(16)
				if got := totalBy(b.table, k, id, workers); got != want {
					t.Fatalf("%q: %d, #%d by %d: %+v, not %+v", b.edits, k, id, workers, got, want)
				}
				values += min(1, want.entries-want.nulls)
				nulls += min(1, want.nulls)
				if want.err != nil {
					no++
				}
			}
		}
	}
	if values < 200 || nulls < 200 || no < 100 {
		t.Error(values, nulls, no)
	}
}

func isLeaf(n api.Node, id int) bool {
	return n.ID == id && n.Kind != api.Group || slices.ContainsFunc(n.Sub, func(in api.Node) bool { return isLeaf(in, id) })
}

// TestP193EachNumber of workers tells the same, time and again.
func TestP193EachNumber(t *testing.T) {
	b := tableOf(addA, addG)
	r := rand.New(rand.NewSource(1930))
	for i := range 20 {
		var l []api.Datum
		// Files of unlike lengths are not done in the order in which they are handed out.
		for range 1 + (i*37)%40 {
			l = append(l, anyDatum(r, b.root()))
		}
		b.append(l, 9, 50)
	}
	ids, where := []int{0}, "!#1 = 2"
	want, sum := told(b.scan(0, ids, where)), b.total(0, 3)
	for workers := 1; workers <= 16; workers++ {
		for range 2 {
			if got := told(must(feed.Scan(b.table, 0, ids, where, workers))); got != want {
				t.Fatal(workers, got)
			}
			if got := totalBy(b.table, 0, 3, workers); got != sum {
				t.Fatal(workers, got, sum)
			}
			s := &list{}
			mustTell(t, feed.Each(b.table, 0, ids, where, workers, s), nil)
			if told(s.l) != want {
				t.Fatal(workers, s.l)
			}
		}
	}
}

// TestP2AllAreJoined: nobody goes on behind an answer, whether it is an error or not.
func TestP2AllAreJoined(t *testing.T) {
	b := threeFiles()
	was := runtime.NumGoroutine()
	for range 50 {
		must(feed.Scan(b.table, 0, []int{0}, "", 16))
		mustTell(t, feed.Each(b.table, 0, []int{0}, "", 16, &list{enough: 1}), nil)
		totalBy(b.table, 0, 1, 16)
		feed.Scan(b.table, 0, []int{9}, "", 16)
	}
	// Who is joined may still be about to leave.
	for range 1000 {
		if runtime.NumGoroutine() <= was {
			return
		}
		runtime.Gosched()
	}
	t.Error(runtime.NumGoroutine(), was)
}

// TestP2ManyAtOnce: readers of one table know nothing of each other.
func TestP2ManyAtOnce(t *testing.T) {
	b := threeFiles()
	want, sum := told(b.scan(0, []int{0}, "")), b.total(0, 4)
	var all sync.WaitGroup
	for i := range 20 {
		all.Go(func() {
			l, err := feed.Scan(b.table, 0, []int{0}, "", 1+i%16)
			if told(l) != want || err != nil {
				t.Error(l, err)
			}
			if got := totalBy(b.table, 0, 4, 1+i%16); got != sum {
				t.Error(got)
			}
		})
	}
	all.Wait()
}

// meddler changes the table, and what it is handed.
type meddler struct {
	*both
	texts []string
}

func (m *meddler) See(d api.Datum) bool {
	m.texts = append(m.texts, textsOf(m.table, []int{1}, []api.Datum{d}))
	m.put("{a:7}")
	must(m.table.Collect())
	d.F[0].V.N = 99
	d.F = append(d.F[:1], api.Datum{None: true})
	return true
}

// TestP191Meddler: who sees may call the table, and keep or change what is handed over.
func TestP191Meddler(t *testing.T) {
	b := tableOf(addA)
	b.put("{a:1}", "{a:2}", "{a:3}")
	b.put("{a:4}")
	m := &meddler{both: b}
	mustTell(t, feed.Each(b.table, 0, []int{1}, "", 3, m), nil)
	if got := strings.Join(m.texts, " "); got != "{a:1} {a:2} {a:3} {a:4}" {
		t.Error(got)
	}
	if got := textsOf(b.table, []int{0}, must(feed.Scan(b.table, 0, []int{0}, "", 3))); got != "{a:1} {a:2} {a:3} {a:4} {a:7} {a:7} {a:7} {a:7}" {
		t.Error(got)
	}
}

// TestP4Feed: what is handed over is only read, what is answered is nobody else's.
func TestP4Feed(t *testing.T) {
	b := threeFiles()
	was := on(b.disk)
	ids := []int{1, 2, 3, 77, 78}
	for range 3 {
		l, err := feed.Scan(b.table, 0, ids[:3:3], "", 5)
		mustTell(t, err, nil)
		mustTell(t, feed.Each(b.table, 0, ids[:3], "", 5, &list{}), nil)
		if !slices.Equal(ids, []int{1, 2, 3, 77, 78}) || told(l) != told(b.scan(0, ids[:3], "")) {
			t.Fatal(ids, l)
		}
		rest := append(l[:1:1], api.Datum{None: true})
		rest[0].F[1].V.N = 98
		for i := range l {
			l[i].F[0].L = append(l[i].F[0].L[:0], api.Datum{None: true})
			l[i].F[2] = api.Datum{}
		}
	}
	if on(b.disk) != was {
		t.Error("the disk is not as it was")
	}
}

// TestP190LostTable: a table that changes nothing any more is read as ever.
func TestP190LostTable(t *testing.T) {
	b := threeFiles()
	mustTell(t, b.disk.Cut(3), nil)
	mustTell(t, b.table.Edit("drop 1"), api.ErrNone)
	if got := told(must(feed.Scan(b.table, 0, []int{0}, "", 3))); got != told(b.scan(0, []int{0}, "")) {
		t.Error(got)
	}
	x := must(table.Open(b.disk))
	if got := totalBy(x, 0, 1, 3); got != b.total(0, 1) {
		t.Error(got)
	}
}

// TestP1WhateverIsGiven: no call panics, and each ends.
func TestP1WhateverIsGiven(t *testing.T) {
	numbers := []int{math.MinInt, -1, 0, 1, 2, 3, 16, 17, 1000, math.MaxInt}
	texts := []string{"", " ", "x", "#1 < 5", "#1 is null", strings.Repeat("(", 9000), strings.Repeat("#1 < 5 & ", 9000), "\x00\xff", "#1 = 99999999999"}
	dropped := tableOf(addA)
	dropped.put("{a:1}")
	dropped.edit("drop 1")
	for _, b := range []*both{tableOf(), tableOf(addA), dropped, threeFiles()} {
		was := on(b.disk)
		for _, one := range numbers {
			for _, two := range numbers {
				for _, where := range texts {
					feed.Scan(b.table, one, []int{1}, where, two)
					feed.Scan(b.table, 0, []int{one, two}, where, 2)
					feed.Each(b.table, one, numbers, where, two, nil)
				}
				feed.Scan(b.table, one, nil, "", two)
				for _, three := range numbers {
					if got := totalBy(b.table, one, two, three); got.err != nil && got != (total{err: got.err}) {
						t.Error(got)
					}
				}
			}
		}
		if on(b.disk) != was {
			t.Error("the disk is not as it was")
		}
	}
}
