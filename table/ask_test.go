package table_test

import (
	"slices"
	"testing"

	"shredcol/api"
	"shredcol/scan"
)

// TestP173Ask: what Scan is asked, as it is asked of each file, with the same errors.
func TestP173Ask(t *testing.T) {
	_, x, m := tableOf(9000, addA)
	m = mustDo(t, x, m, m.appendOf("{a:1}", "{a:2}"), call{line: addB})
	m = mustDo(t, x, m, m.appendOf("{a:3,b:null}"))
	ids := []int{1, 2}
	a, err := x.Ask(ids, "#1 > 1")
	mustTell(t, err, nil)
	ids[0] = 99 // is not kept
	var got []api.Datum
	for _, s := range must(x.Files(0)) {
		l, _, err := scan.Scan(s, a)
		mustTell(t, err, nil)
		got = append(got, l...)
	}
	if want := m.scan(0, []int{1, 2}, "#1 > 1"); told(got) != told(want) || len(got) != 2 {
		t.Error(got, want)
	}
	_, none, _ := tableOf(9000)
	for _, c := range []struct {
		ids   []int
		where string
	}{{[]int{0}, "x"}, {[]int{9}, ""}, {nil, ""}, {[]int{9}, " "}} {
		a, err := x.Ask(c.ids, c.where)
		_, want := x.Scan(0, c.ids, c.where)
		if err != want || err == nil || len(a.To.Sub)+len(a.IDs)+len(a.Where) > 0 {
			t.Error(c, a, err, want)
		}
		if a, err := none.Ask(c.ids, c.where); err != api.ErrShape || !slices.Equal(a.IDs, nil) {
			t.Error(c, a, err)
		}
	}
}
