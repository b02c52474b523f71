package table_test

import (
	"math"
	"math/rand"
	"strconv"
	"testing"

	"shredcol/api"
	"shredcol/disk"
	"shredcol/file"
	"shredcol/table"
)

// replaced: the model behind Replace.
func (m model) replaced(parts [][]api.Datum, rows, most int) model {
	root := replayed(m.edits)
	var newest []batch
	for _, l := range parts {
		newest = append(newest, batch{root, l, must(file.Write(root, l, rows, most))})
	}
	snaps := append([][]batch{newest}, m.snaps...)
	return model{m.edits, snaps[:min(len(snaps), 4)]}
}

// someParts of {a:..}, one each.
func someParts(root api.Node, from, many int) [][]api.Datum {
	var parts [][]api.Datum
	for i := range many {
		parts = append(parts, recordsOf(root, "{a:"+strconv.Itoa(from+i)+"}"))
	}
	return parts
}

func TestP180Replace(t *testing.T) {
	d, x, m := tableOf(20000, addA)
	m = mustDo(t, x, m, m.appendOf("{a:1}"), m.appendOf("{a:2}"))
	for i, many := range []int{1, 0, 2, 20, 20, 0, 0, 3} {
		parts := someParts(x.Schema(), i, many)
		mustTell(t, x.Replace(parts, 1, 1), nil)
		m = m.replaced(parts, 1, 1)
		mustBe(t, x, m)
		mustStand(t, d, m)
		must(x.Collect())
		if n := len(d.Names()); n > m.files()+1 {
			t.Error(i, n)
		}
	}
	m = mustDo(t, x, m, m.appendOf("{a:9}"), call{line: "widen 1"})
	mustStand(t, d, m)
}

// TestP174ReplaceOnce: files of one call that are alike are one on the disk.
func TestP174ReplaceOnce(t *testing.T) {
	d, x, m := tableOf(20000, addA)
	parts := append(someParts(x.Schema(), 1, 3), someParts(x.Schema(), 1, 2)...)
	mustTell(t, x.Replace(parts, 1, 1), nil)
	if n := len(d.Names()); n != 4 || len(must(x.Files(0))) != 5 {
		t.Error(d.Names())
	}
	mustStand(t, d, m.replaced(parts, 1, 1))
}

func TestP180ReplaceErrors(t *testing.T) {
	d, x, m := tableOf(20000, addA)
	m = mustDo(t, x, m, m.appendOf("{a:1}"))
	good, was := someParts(x.Schema(), 1, 21), on(d)
	wrong := append(good[:1:1], append(good[1], api.Datum{}))
	for i, c := range []struct {
		parts      [][]api.Datum
		rows, most int
		want       error
	}{
		{good, 1, 1, api.ErrBound}, {good[:1], 0, 1, api.ErrBound}, {good[:1], 101, 1, api.ErrBound}, {good[:1], 1, 0, api.ErrBound}, {good[:1], 1, 20001, api.ErrBound},
		{nil, 0, 1, api.ErrBound}, {nil, math.MaxInt, 1, api.ErrBound}, {nil, 1, math.MinInt, api.ErrBound},
		{wrong, 1, 1, &api.Fault{At: 1, Err: api.ErrShape}}, {wrong, 0, 1, api.ErrBound},
	} {
		if err := x.Replace(c.parts, c.rows, c.most); !same(err, c.want) || on(d) != was {
			t.Errorf("%d: %#v, not %v", i, err, c.want)
		}
	}
	mustBe(t, x, m)
	_, bare, _ := tableOf(2000)
	mustTell(t, bare.Replace(nil, 1, 1), api.ErrShape)
	mustTell(t, bare.Replace(good, 0, 1), api.ErrShape)
	long, big, _ := tableOf(api.MaxQuota, "add 0 repeated bytes a;")
	l := longRecords(rand.New(rand.NewSource(180)))
	mustTell(t, big.Replace([][]api.Datum{nil, l}, 100, 20000), api.ErrBound)
	mustStand(t, long, must(newModel().call(call{line: "add 0 repeated bytes a;"})))
}

// TestP171ReplaceCut: more than one file is written, and all of them count, or none.
func TestP171ReplaceCut(t *testing.T) {
	d, x, m := tableOf(9000, addA)
	m = mustDo(t, x, m, m.appendOf("{a:1}"), m.appendOf("{a:2}"))
	leave(t, d, 9)
	parts := someParts(x.Schema(), 2, 3)
	behind := m.replaced(parts, 1, 1)
	for n := 0; ; n++ {
		cut := d.Copy()
		y := must(table.Open(cut))
		if y.Lost() {
			t.Fatal("lost at once")
		}
		mustTell(t, cut.Cut(n), nil)
		err := y.Replace(parts, 1, 1)
		if err == nil {
			mustStand(t, cut, behind)
			if n < 200 || y.Lost() {
				t.Error(n)
			}
			break
		}
		mustTell(t, err, api.ErrNone)
		cut.Mend()
		mustBeLost(t, cut, y)
		mustTell(t, y.Replace(parts, 0, 0), api.ErrNone)
		if !y.Lost() {
			t.Error(n)
		}
		found(t, cut, m, behind)
	}
}

// TestP171ReplaceFull: of more than one file nothing is left.
func TestP171ReplaceFull(t *testing.T) {
	ends := map[error]int{}
	for quota := 300; quota < 1200; quota += 13 {
		d := must(disk.New(quota))
		x := must(table.Create(d))
		m := mustDo(t, x, newModel(), call{line: addA})
		m = mustDo(t, x, m, m.appendOf("{a:1}"))
		parts := someParts(x.Schema(), 2, 5)
		err := x.Replace(parts, 1, 1)
		ends[err]++
		if err == nil {
			m = m.replaced(parts, 1, 1)
		} else if err != api.ErrSpace || x.Lost() || len(d.Names()) != 2 {
			t.Error(quota, err, d.Names())
		}
		mustBe(t, x, m)
		mustStand(t, d, m)
	}
	if ends[nil] < 5 || ends[api.ErrSpace] < 5 {
		t.Error(ends)
	}
}
