package table_test

import (
	"math/rand"
	"slices"
	"strconv"
	"strings"
	"testing"

	"shredcol/api"
	"shredcol/disk"
	"shredcol/table"
)

// mustBeLost: no call changes the table any more, with power or without.
func mustBeLost(t *testing.T, d *disk.Disk, x *table.Table) {
	t.Helper()
	was := on(d)
	mustTell(t, x.Edit("add 0 required int zz;"), api.ErrNone)
	mustTell(t, x.Append(nil, 1, 1), api.ErrNone)
	if n, err := x.Collect(); n != 0 || err != api.ErrNone {
		t.Fatal(n, err)
	}
	if on(d) != was {
		t.Fatalf("%s, not %s", on(d), was)
	}
}

// found on the disk: one of both tables, told by its model.
func found(t *testing.T, d *disk.Disk, ahead, behind model) (*table.Table, model) {
	t.Helper()
	x, err := table.Open(d)
	if err != nil {
		t.Fatal(err)
	}
	switch brief(x) {
	case ahead.brief():
		return x, ahead
	case behind.brief():
		return x, behind
	}
	t.Fatalf("%s, neither %s nor %s", brief(x), ahead.brief(), behind.brief())
	return nil, model{}
}

// eachCut of the power amid a call of the table that stands on d.
func eachCut(t *testing.T, d *disk.Disk, ahead model, c call) {
	t.Helper()
	behind := must(ahead.call(c))
	for n := 0; ; n++ {
		cut := d.Copy()
		x := must(table.Open(cut))
		mustTell(t, cut.Cut(n), nil)
		err := c.of(x)
		if err == nil {
			mustBe(t, x, behind)
			mustStand(t, cut, behind)
			if n < 10 {
				t.Fatalf("%+v: done in %d steps", c, n)
			}
			return
		}
		mustTell(t, err, api.ErrNone)
		found(t, cut, ahead, behind)
		mustBeLost(t, cut, x)
		cut.Mend()
		mustBeLost(t, cut, x)
		y, m := found(t, cut, ahead, behind)
		if n%50 == 0 {
			mustBe(t, y, m)
		}
		if brief(y) != behind.brief() {
			mustTell(t, c.of(y), nil)
		}
		must(y.Collect())
		if many := len(cut.Names()); many > behind.files()+2 {
			t.Fatal(n, many, behind.files())
		}
		y, _ = found(t, cut, behind, behind)
		if n%50 == 0 {
			mustBe(t, y, behind)
		}
	}
}

func TestP171Cuts(t *testing.T) {
	d, x, m := tableOf(9000)
	for _, c := range []func() call{
		func() call { return call{line: addA} },
		func() call { return m.appendOf("{a:1}", "{a:2}") },
		func() call { return call{line: addG} },
		func() call { return m.appendOf("{a:3,g:[{c:5}]}") },
		func() call { return call{line: "widen 1"} },
		func() call { return call{rows: 1, most: 1} },
		func() call { return m.appendOf("{a:4,g:[]}", "{a:5,g:[]}", "{a:6,g:[{c:1},{c:2}]}") },
		func() call { return m.appendOf("{a:7,g:[]}") }, // the oldest one goes
		func() call { return call{line: "drop 1"} },
	} {
		eachCut(t, d, m, c())
		m = mustDo(t, x, m, c())
	}
}

func TestP171CutsByTheRule(t *testing.T) {
	r := rand.New(rand.NewSource(171))
	for range 4 {
		d, x, m := tableOf(20000, addA)
		for range 10 {
			c := rightCall(r, m)
			if r.Intn(2) == 0 {
				eachCut(t, d, m, c)
			}
			m = mustDo(t, x, m, c)
		}
		mustStand(t, d, m)
	}
}

// leave a piece of a file on the disk: what an append that was cut has left.
func leave(t *testing.T, d *disk.Disk, bytes int) {
	t.Helper()
	x := must(table.Open(d))
	mustTell(t, d.Cut(bytes), nil)
	mustTell(t, x.Append(nil, 1, 1), api.ErrNone)
	d.Mend()
}

// TestP171ManyCuts: what is left of changes that were cut fills the disk with files; then
// a commit collects them, also where it is cut amid that.
func TestP171ManyCuts(t *testing.T) {
	d, x, m := tableOf(9000, addA)
	m = mustDo(t, x, m, m.appendOf("{a:1}"))
	for range 50 {
		leave(t, d, 5)
		mustStand(t, d, m)
	}
	if n := len(d.Names()); n < 10 || n > api.MaxFiles {
		t.Fatal(n)
	}
	for len(d.Names()) < api.MaxFiles {
		leave(t, d, 1)
	}
	for _, c := range []call{{line: addB}, m.appendOf("{a:2}")} {
		eachCut(t, d, m, c)
		full := d.Copy()
		y := must(table.Open(full))
		got := mustDo(t, y, m, c)
		mustBe(t, y, got)
		mustStand(t, full, got)
		if n := len(full.Names()); n > 4 {
			t.Error(n)
		}
	}
}

// TestP171OneFileIsFree: what has room for its records, and not for what comes behind.
func TestP171OneFileIsFree(t *testing.T) {
	for left := range 4 {
		d, x, m := tableOf(9000, addA)
		for i := range api.MaxFiles - len(d.Names()) - left {
			mustTell(t, d.Append("x"+strconv.Itoa(i), "x"), nil)
		}
		m = mustDo(t, x, m, m.appendOf("{a:1}"))
		if n := len(d.Names()); n > api.MaxFiles || left < 2 && n > 3 {
			t.Error(left, n)
		}
		mustStand(t, d, m)
	}
}

// writes: bytes that a call writes at most: its records, and what the table is besides.
func writes(d *disk.Disk, m, next model) int {
	const most = 100 // how much of it may be new, but for the edit
	n := len(must(d.Read("table"))) + len(strings.Join(next.edits, "")) - len(strings.Join(m.edits, "")) + most
	if len(next.snaps[0]) > len(m.snaps[0]) {
		n += len(next.snaps[0][len(m.snaps[0])].text)
	}
	return n
}

// TestP171Full: a disk that is too small leaves all as it is, and nothing of the call's own.
func TestP171Full(t *testing.T) {
	tells := map[error]int{}
	for quota := 20; quota < 1500; quota += 7 {
		d := must(disk.New(quota))
		x, err := table.Create(d)
		mustTell(t, err, nil)
		m, r := newModel(), rand.New(rand.NewSource(int64(quota)))
		for i := range 25 {
			c := call{line: addA}
			if i > 0 {
				c = rightCall(r, m)
			}
			next := must(m.call(c))
			err := c.of(x)
			tells[err]++
			if err == nil {
				m = next
			} else if err != api.ErrSpace || len(d.Names()) != m.files()+1 {
				t.Fatal(quota, i, err, d.Names())
			} else if d.Used()+writes(d, m, next) <= quota {
				t.Fatal(quota, i, d.Used()) // there is room
			}
			if brief(x) != m.brief() {
				mustBe(t, x, m)
			}
			found(t, d, m, m)
			if i == 0 && err != nil {
				break
			}
		}
	}
	if tells[nil] < 500 || tells[api.ErrSpace] < 500 {
		t.Error(tells)
	}
}

// TestP171FullOfLeft: what is left of changes that were cut takes room, until it is needed.
func TestP171FullOfLeft(t *testing.T) {
	d, x, m := tableOf(800, addA)
	m = mustDo(t, x, m, m.appendOf("{a:1}"))
	for d.Used() < 700 {
		leave(t, d, min(60, 800-d.Used()))
	}
	was := d.Used()
	eachCut(t, d, m, call{line: addB})
	eachCut(t, d, m, m.appendOf("{a:2}"))
	y := must(table.Open(d))
	m = mustDo(t, y, m, m.appendOf("{a:2}"))
	mustStand(t, d, m)
	if d.Used() >= was {
		t.Error(d.Used(), was)
	}
}

// TestP171FullCut: the power goes amid what a full disk makes the call do, whether there is
// room in the end, or for the records alone, or for nothing.
func TestP171FullCut(t *testing.T) {
	ends := map[error]int{}
	for records := range 40 {
		d, x, m := tableOf(400, addA)
		m = mustDo(t, x, m, m.appendOf("{a:1}"))
		leave(t, d, 70)
		leave(t, d, 30)
		var texts []string
		for i := range records {
			texts = append(texts, "{a:"+strconv.Itoa(i*i*i*12345)+"}")
		}
		c := m.appendOf(texts...)
		next := must(m.call(c))
		end := api.ErrNone
		for n := 0; end == api.ErrNone; n++ {
			cut := d.Copy()
			y := must(table.Open(cut))
			mustTell(t, cut.Cut(n), nil)
			end = c.of(y)
			switch end {
			case nil:
				m = next
			case api.ErrSpace:
				if brief(y) != m.brief() || len(cut.Names()) != 2 {
					t.Fatal(n, cut.Names())
				}
			default:
				mustTell(t, end, api.ErrNone)
				mustBeLost(t, cut, y)
			}
			found(t, cut, m, m)
		}
		ends[end]++
	}
	if ends[nil] < 5 || ends[api.ErrSpace] < 5 {
		t.Error(ends)
	}
}

// longCall of about so many bytes, which no way makes shorter.
func longCall(r *rand.Rand, many int) call {
	var list []api.Datum
	for ; many > 0; many -= 100 {
		b := make([]byte, min(many, 100))
		r.Read(b)
		list = append(list, api.Datum{V: api.Value{Kind: api.Bytes, S: string(b)}})
	}
	c := call{rows: 1 + r.Intn(9), most: 1 + r.Intn(50)}
	for part := range slices.Chunk(list, 40) {
		c.l = append(c.l, api.Datum{F: []api.Datum{{L: part}}})
	}
	return c
}

// TestP171Room: of the quota that is told there is room, also with a disk full of what is left.
func TestP171Room(t *testing.T) {
	r := rand.New(rand.NewSource(1710))
	for range 40 {
		most := []int{10, 300, 3000, 9000, 25000}[r.Intn(5)]
		calls, m, quota := []call{{line: "add 0 repeated bytes a;"}}, newModel(), 20000
		for {
			c := calls[len(calls)-1]
			next := must(m.call(c))
			if 20000+4*next.size() > api.MaxQuota || len(calls) > 19 {
				calls = calls[:len(calls)-1]
				break
			}
			m, quota = next, max(quota, 20000+4*next.size())
			calls = append(calls, longCall(r, 1+r.Intn(most)))
			if r.Intn(3) == 0 {
				calls[len(calls)-1] = call{line: "rename 1 " + strings.Repeat("b", 1+r.Intn(12))}
			}
		}
		d := must(disk.New(quota))
		x, got := must(table.Create(d)), newModel()
		for _, c := range calls {
			if r.Intn(2) == 0 && len(got.edits) > 0 {
				d.Cut(r.Intn(most))
				err := longCall(r, most).of(x)
				d.Mend()
				if err != nil {
					mustTell(t, err, api.ErrNone)
				}
				x, got = found(t, d, got, got)
			}
			got = mustDo(t, x, got, c)
		}
		mustBe(t, x, m)
		mustStand(t, d, m)
	}
}

// TestP171RoomForEdits: long ones, as many as there may be.
func TestP171RoomForEdits(t *testing.T) {
	name := func(i int) string { return "abcdefghij" + string(rune('a'+i/26)) + string(rune('a'+i%26)) }
	var in []string
	for i := range 31 {
		in = append(in, "required double "+name(i)+";")
	}
	add := "add 0 repeated group " + name(99) + " { " + strings.Join(in, " ") + " }"
	var edits []string
	size, next := 0, 1
	for range 30 {
		edits = append(edits, add, "drop "+strconv.Itoa(next))
		size += len(add) + len(edits[1])
		next += 32
	}
	for _, quota := range []int{20000 + 4*size, api.MaxQuota} {
		d, x, m := tableOf(quota, edits...)
		mustBe(t, x, m)
		mustStand(t, d, m)
	}
}

func TestP171RoomToCreate(t *testing.T) {
	for quota := 20000; quota < 20004; quota++ {
		d := must(disk.New(quota))
		if _, err := table.Create(d); err != nil {
			t.Error(quota, err)
		}
	}
}

// TestP171NoPower: without any, each call that would change the table is lost at once.
func TestP171NoPower(t *testing.T) {
	for _, c := range []call{{line: addB}, {rows: 1, most: 1}} {
		d, x, m := tableOf(9000, addA)
		m = mustDo(t, x, m, m.appendOf("{a:1}"))
		mustTell(t, d.Cut(0), nil)
		// What changes nothing needs none, and loses nothing.
		mustTell(t, x.Edit("drop 9"), api.ErrNone)
		mustTell(t, x.Edit("x"), api.ErrText)
		mustTell(t, x.Append(nil, 0, 1), api.ErrBound)
		if n, err := x.Collect(); n != 0 || err != nil {
			t.Error(n, err)
		}
		d.Mend()
		m = mustDo(t, x, m, m.appendOf("{a:2}"))
		mustTell(t, d.Cut(0), nil)
		mustTell(t, c.of(x), api.ErrNone)
		d.Mend()
		mustBeLost(t, d, x)
		mustStand(t, d, m)
	}
}

func TestP174Collect(t *testing.T) {
	d, x, m := tableOf(9000, addA)
	mustCollect := func(y *table.Table, want int) {
		t.Helper()
		was, steps := len(d.Names()), d.Steps()
		n, err := y.Collect()
		if n != want || err != nil || was-len(d.Names()) != n || d.Steps() != steps+n || len(d.Names()) > m.files()+2 {
			t.Fatal(n, err, want, d.Names())
		}
		mustBe(t, y, m)
		mustStand(t, d, m)
	}
	mustCollect(x, 0)
	m = mustDo(t, x, m, m.appendOf("{a:1}"), m.appendOf("{a:2}"), call{line: addB})
	mustCollect(x, 0)
	for i := range 5 {
		leave(t, d, 1+i*9)
	}
	mustCollect(must(table.Open(d)), 5)
	mustCollect(must(table.Open(d)), 0)
	mustCollect(x, 0)
	mustTell(t, d.Append("zzz", "not the table's"), nil)
	mustTell(t, d.Append("f7", "not the table's"), nil)
	mustTell(t, d.Append("0", "not the table's"), nil)
	m = mustDo(t, x, m, m.appendOf("{a:3,b:null}"), call{line: "widen 1"})
	mustCollect(x, 3)
	for range 9 {
		m = mustDo(t, x, m, m.appendOf("{a:4,b:null}"))
	}
	mustCollect(x, 0)
}

// TestP174EachOnce: what is appended again and again is one file on the disk, in each of its
// places; one of the same length is another one.
func TestP174EachOnce(t *testing.T) {
	d, x, m := tableOf(9000, addA)
	for i := range 12 {
		m = mustDo(t, x, m, m.appendOf("{a:"+strconv.Itoa(i%3)+"}"))
		if n := len(d.Names()); n != min(i+1, 3)+1 || len(must(x.Files(0))) != i+1 {
			t.Error(i, d.Names())
		}
	}
	mustBe(t, x, m)
	mustStand(t, d, m)
	if n, err := x.Collect(); n != 0 || err != nil {
		t.Error(n, err)
	}
}

// TestP174OnceAndChanged: a file that was changed behind the table is not the one that comes.
func TestP174OnceAndChanged(t *testing.T) {
	d, x, m := tableOf(9000, addA)
	c := m.appendOf("{a:1}")
	m = mustDo(t, x, m, c)
	name := d.Names()[0]
	mustTell(t, d.Append(name, "x"), nil)
	mustTell(t, c.of(x), nil)
	if n := len(d.Names()); n != 3 || name == "table" {
		t.Error(d.Names())
	}
	put(d, name, m.snaps[0][0].text)
	mustStand(t, d, must(m.call(c)))
}

func TestP174CollectCut(t *testing.T) {
	d, x, m := tableOf(9000, addA)
	m = mustDo(t, x, m, m.appendOf("{a:1}"))
	for range 4 {
		leave(t, d, 3)
	}
	for n := range 6 {
		cut := d.Copy()
		y := must(table.Open(cut))
		mustTell(t, cut.Cut(n), nil)
		gone, err := y.Collect()
		if n >= 4 {
			if gone != 4 || err != nil {
				t.Error(n, gone, err)
			}
			continue
		}
		if gone != 0 || err != api.ErrNone || len(cut.Names()) != len(d.Names())-n {
			t.Error(n, gone, err, cut.Names())
		}
		cut.Mend()
		mustBeLost(t, cut, y)
		z := must(table.Open(cut))
		mustBe(t, z, m)
		if gone, err := z.Collect(); gone != 4-n || err != nil {
			t.Error(n, gone, err)
		}
		mustStand(t, cut, mustDo(t, z, m, m.appendOf("{a:2}")))
	}
}
