package table_test

import (
	"math"
	"math/rand"
	"slices"
	"strconv"
	"strings"
	"testing"

	"shredcol/api"
	"shredcol/data"
	"shredcol/disk"
	"shredcol/file"
	"shredcol/schema"
	"shredcol/table"
)

const (
	addA = "add 0 required int a;"
	addB = "add 0 optional bytes b;"
	addG = "add 0 repeated group g { required int c; }"
)

func TestP170Create(t *testing.T) {
	d := must(disk.New(1000))
	x, err := table.Create(d)
	mustTell(t, err, nil)
	mustBe(t, x, newModel())
	mustStand(t, d, newModel())
	if n := x.Snapshots(); n != 1 {
		t.Error(n)
	}
	if l, err := x.Files(0); len(l) != 0 || err != nil {
		t.Error(l, err)
	}
	if n := x.Schema(); n.Name != "root" || n.ID != 0 || n.Rep != api.Required || n.Kind != api.Group || n.Sub != nil {
		t.Error(n)
	}
}

// TestP170CreateFiles: a disk with files, whatever they are, gets no table.
func TestP170CreateFiles(t *testing.T) {
	for _, name := range []string{"a", "table", "f0", "zzzzzzzzzzzz", "0"} {
		for quota := range 3 {
			d := must(disk.New(1000))
			mustTell(t, d.Append(name, "x"), nil)
			mustTell(t, d.Cut(quota), nil)
			was := on(d)
			x, err := table.Create(d)
			if x != nil || err != api.ErrShape || on(d) != was {
				t.Error(name, x, err, on(d))
			}
		}
	}
	d, _, _ := tableOf(1000, addA)
	was := on(d)
	if x, err := table.Create(d); x != nil || err != api.ErrShape || on(d) != was {
		t.Error(x, err)
	}
}

// TestP170CreateSmall: on a disk that is too small nothing is left.
func TestP170CreateSmall(t *testing.T) {
	full := 0
	for quota := range 200 {
		d := must(disk.New(quota))
		x, err := table.Create(d)
		if err == nil {
			mustStand(t, d, newModel())
			continue
		}
		full++
		if x != nil || err != api.ErrSpace || d.Used() != 0 || len(d.Names()) != 0 {
			t.Error(quota, x, err, on(d))
		}
		if _, err := table.Open(d); err != api.ErrNone {
			t.Error(quota, err)
		}
	}
	if full < 4 || full > 199 {
		t.Error(full)
	}
}

// TestP170CreateCut: wherever the power is cut, there is no table, or the one that was made.
func TestP170CreateCut(t *testing.T) {
	whole := must(disk.New(1000))
	must(table.Create(whole))
	for n := range whole.Steps() + 3 {
		d := must(disk.New(1000))
		mustTell(t, d.Cut(n), nil)
		x, err := table.Create(d)
		if (err == nil) != (n >= whole.Steps()) || err != nil && (x != nil || err != api.ErrNone) {
			t.Fatal(n, x, err)
		}
		if err == nil {
			mustStand(t, d, newModel())
		} else if _, err := table.Open(d); err != api.ErrNone {
			t.Fatal(n, err)
		}
	}
}

func TestP170OpenNone(t *testing.T) {
	d := must(disk.New(1000))
	for _, name := range []string{"", "a", "f0", "f1", "tables"} {
		if name != "" {
			mustTell(t, d.Append(name, "x"), nil)
		}
		was := on(d)
		if x, err := table.Open(d); x != nil || err != api.ErrNone || on(d) != was {
			t.Error(name, x, err)
		}
	}
}

// put a file's text in the place of another one.
func put(d *disk.Disk, name, s string) {
	d.Remove(name)
	if err := d.Append(name, s); err != nil {
		panic(err)
	}
}

// TestP170OpenText: what was changed behind the table's back is none.
func TestP170OpenText(t *testing.T) {
	d, x, m := tableOf(5000, addA)
	m = mustDo(t, x, m, m.appendOf("{a:1}", "{a:2}"), call{line: addB})
	mustDo(t, x, m, m.appendOf(`{a:3,b:"x"}`))
	if len(d.Names()) != 3 {
		t.Fatal(d.Names())
	}
	mustNotOpen := func(c *disk.Disk, what ...any) {
		t.Helper()
		was := on(c)
		if x, err := table.Open(c); x != nil || err != api.ErrText || on(c) != was {
			t.Fatal(what, x, err)
		}
	}
	for _, name := range d.Names() {
		s := must(d.Read(name))
		for i := range s {
			for bit := range 8 {
				c, b := d.Copy(), []byte(s)
				b[i] ^= 1 << bit
				put(c, name, string(b))
				mustNotOpen(c, name, i, bit)
			}
			if i > 0 {
				c := d.Copy()
				put(c, name, s[:i])
				mustNotOpen(c, name, i)
			}
		}
		c := d.Copy()
		mustTell(t, c.Append(name, "\x00"), nil)
		mustNotOpen(c, name)
		for _, other := range d.Names() {
			if other != name {
				c := d.Copy()
				put(c, name, must(d.Read(other)))
				mustNotOpen(c, name, other)
			}
		}
		c = d.Copy()
		mustTell(t, c.Remove(name), nil)
		if x, err := table.Open(c); x != nil || err == nil || (err == api.ErrNone) != (name == "table") {
			t.Fatal(name, x, err)
		}
	}
}

// TestP170OpenWithoutPower: what is only looked at needs none.
func TestP170OpenWithoutPower(t *testing.T) {
	d, x, m := tableOf(5000, addA)
	m = mustDo(t, x, m, m.appendOf("{a:1}", "{a:2}"))
	mustTell(t, d.Cut(0), nil)
	mustBe(t, x, m)
	mustStand(t, d, m)
}

func TestP172EditErrors(t *testing.T) {
	d, x, m := tableOf(5000, addA, addB, addG)
	m = mustDo(t, x, m, m.appendOf(`{a:1,b:null,g:[{c:2}]}`))
	was := on(d)
	for _, c := range []struct {
		line string
		want error
	}{
		{"", api.ErrText}, {"x", api.ErrText}, {"drop", api.ErrText}, {"drop 01", api.ErrText}, {"drop 1 ", api.ErrText}, {"add 0 required int d", api.ErrText},
		{"add 0 required int d;\n", api.ErrText}, {"add 0 required int d#9;", api.ErrText}, {strings.Repeat("x", 20000), api.ErrText},
		{"drop 9", api.ErrNone}, {"drop 0", api.ErrNone}, {"add 9 required int d;", api.ErrNone},
		{"add 1 required int d;", api.ErrKind}, {"widen 2", api.ErrKind}, {"loosen 2", api.ErrKind}, {"loosen 3", api.ErrKind},
		{"rename 1 A", api.ErrName}, {"rename 1 b", api.ErrName}, {"add 0 required int a;", api.ErrName},
		{"move 1 3", api.ErrBound}, {"add 4 required int d;", api.ErrKind},
	} {
		err := x.Edit(c.line)
		if err != c.want || on(d) != was {
			t.Errorf("%.30q: %#v, not %v", c.line, err, c.want)
		}
		mustBe(t, x, m)
	}
	// None of these was the disk's error: the table goes on.
	mustStand(t, d, mustDo(t, x, m, call{line: "widen 1"}, call{line: "move 1 2"}, call{line: "loosen 1"}, call{line: "rename 2 z"}))
}

func TestP172MaxEdits(t *testing.T) {
	d, x, m := tableOf(5000, addA)
	for i := range 59 {
		m = mustDo(t, x, m, call{line: "rename 1 " + strings.Repeat("a", 1+i%12)})
	}
	for _, line := range []string{"rename 1 b", "", "drop 9"} {
		mustTell(t, x.Edit(line), api.ErrBound)
	}
	if len(x.Edits()) != 60 {
		t.Error(x.Edits())
	}
	mustBe(t, x, m)
	m = mustDo(t, x, m, m.appendOf("{"+replayed(m.edits).Sub[0].Name+":1}"))
	mustStand(t, d, m)
}

// TestP172AllDropped: a schema without nodes comes again; what was there has nothing to tell.
func TestP172AllDropped(t *testing.T) {
	d, x, m := tableOf(5000, addA)
	one := m.appendOf("{a:1}", "{a:2}")
	m = mustDo(t, x, m, one, call{line: "drop 1"})
	for _, l := range [][]api.Datum{nil, one.l, {{}}} {
		mustTell(t, x.Append(l, 1, 1), api.ErrShape)
		mustTell(t, x.Append(l, 0, 0), api.ErrShape)
	}
	mustBe(t, x, m)
	mustStand(t, d, m)
	m = mustDo(t, x, m, call{line: "add 0 repeated group g { required long z; }"})
	mustStand(t, d, m)
	if got := told(must(x.Scan(0, []int{0}, ""))); got != told(recordsOf(x.Schema(), "{g:[]}", "{g:[]}")) {
		t.Error(got)
	}
	mustBe(t, x, mustDo(t, x, m, m.appendOf("{g:[{z:1},{z:2}]}")))
}

func TestP172AppendErrors(t *testing.T) {
	d, x, m := tableOf(9000, addA, addG)
	m = mustDo(t, x, m, m.appendOf("{a:1,g:[]}"))
	root, was := x.Schema(), on(d)
	good := recordsOf(root, "{a:1,g:[]}", "{a:2,g:[{c:3}]}")
	wrong := slices.Concat(good, []api.Datum{{None: true}}, good)
	for i, c := range []struct {
		l          []api.Datum
		rows, most int
		want       error
	}{
		{[]api.Datum{{}}, 1, 1, &api.Fault{At: 0, Err: api.ErrShape}},
		{wrong, 1, 1, &api.Fault{At: 2, Err: api.ErrShape}},
		{wrong, 0, 0, &api.Fault{At: 2, Err: api.ErrShape}},
		{recordsOf(must(schema.Read("required long a #1; repeated group g #2 { required int c #3; }")), "{a:1,g:[]}"), 1, 1, &api.Fault{At: 0, Err: api.ErrKind}},
		{slices.Repeat(good, 51), 1, 1, api.ErrBound},
		{slices.Repeat(wrong, 51), 1, 1, api.ErrBound},
		{good, 0, 1, api.ErrBound}, {good, -1, 1, api.ErrBound}, {good, 101, 1, api.ErrBound}, {good, math.MinInt, 1, api.ErrBound},
		{good, 1, 0, api.ErrBound}, {good, 1, -1, api.ErrBound}, {good, 1, 20001, api.ErrBound}, {good, 1, math.MaxInt, api.ErrBound},
		{nil, 0, 1, api.ErrBound}, {nil, 1, 0, api.ErrBound},
	} {
		if err := x.Append(c.l, c.rows, c.most); !same(err, c.want) || on(d) != was {
			t.Errorf("%d: %#v, not %#v", i, err, c.want)
		}
	}
	mustBe(t, x, m)
	for _, c := range []call{{l: good, rows: 1, most: 1}, {l: good, rows: 100, most: 20000}, {rows: 1, most: 1}, {l: slices.Repeat(good, 50), rows: 7, most: 3}} {
		m = mustDo(t, x, m, c)
	}
	mustStand(t, d, m)
}

// TestP172NoRecords: a file without records is a file, in a snapshot of its own.
func TestP172NoRecords(t *testing.T) {
	d, x, m := tableOf(5000, addA)
	m = mustDo(t, x, m, call{rows: 1, most: 1}, m.appendOf("{a:1}"), call{l: []api.Datum{}, rows: 1, most: 1})
	mustStand(t, d, m)
	if l := must(x.Files(0)); len(l) != 3 || x.Snapshots() != 4 {
		t.Error(len(l), x.Snapshots())
	}
}

// TestP172MaxSnaps: the oldest one goes.
func TestP172MaxSnaps(t *testing.T) {
	_, x, m := tableOf(9000, addA)
	for i := range 8 {
		m = mustDo(t, x, m, m.appendOf("{a:"+strconv.Itoa(i)+"}"))
		if n := x.Snapshots(); n != min(i+2, 4) {
			t.Error(i, n)
		}
		for k := range x.Snapshots() {
			if l := must(x.Files(k)); len(l) != i+1-k {
				t.Error(i, k, len(l))
			}
		}
	}
	if n := x.Snapshots(); n != api.MaxSnaps {
		t.Error(n)
	}
	mustBe(t, x, m)
}

func TestP172MostFiles(t *testing.T) {
	d, x, m := tableOf(20000, addA)
	for range 20 {
		m = mustDo(t, x, m, m.appendOf("{a:1}"))
	}
	was := on(d)
	mustTell(t, m.appendOf("{a:1}").of(x), api.ErrBound)
	mustTell(t, x.Append(nil, 1, 1), api.ErrBound)
	mustTell(t, x.Append([]api.Datum{{}}, 1, 1), &api.Fault{At: 0, Err: api.ErrShape}) // named ahead
	if on(d) != was {
		t.Error("the disk is not as it was")
	}
	mustBe(t, x, m)
	mustStand(t, d, mustDo(t, x, m, call{line: "widen 1"}))
}

// longRecords: 100 of these have more than MaxData bytes, which no way makes shorter.
func longRecords(r *rand.Rand) []api.Datum {
	l := make([]api.Datum, 100)
	for i := range l {
		var list []api.Datum
		for range 21 {
			b := make([]byte, 95)
			r.Read(b)
			list = append(list, api.Datum{V: api.Value{Kind: api.Bytes, S: string(b)}})
		}
		l[i].F = []api.Datum{{L: list}}
	}
	return l
}

// cutTo a file of that size: bytes go from the last values, one by one.
func cutTo(root api.Node, l []api.Datum, size int) string {
	for i := len(l) - 1; ; {
		s := must(file.Write(root, l, 100, 20000))
		over := len(s) - size
		if over <= 0 {
			return s
		}
		for ; over > 0 && i >= 0; i-- {
			list := l[i].F[0].L
			for k := range list {
				n := min(len(list[k].V.S)-1, over)
				list[k].V.S = list[k].V.S[:len(list[k].V.S)-n]
				over -= n
			}
			if over == 0 {
				break
			}
		}
	}
}

func TestP172MaxData(t *testing.T) {
	d, x, m := tableOf(api.MaxQuota, "add 0 repeated bytes a;")
	m = mustDo(t, x, m, m.appendOf(`{a:["x"]}`))
	root, l := x.Schema(), longRecords(rand.New(rand.NewSource(172)))
	was := on(d)
	mustTell(t, x.Append(l, 100, 20000), api.ErrBound)
	if s := cutTo(root, l, api.MaxData+1); len(s) != api.MaxData+1 {
		t.Fatal(len(s))
	}
	mustTell(t, x.Append(l, 100, 20000), api.ErrBound)
	if on(d) != was {
		t.Error("the disk is not as it was")
	}
	mustBe(t, x, m)
	if s := cutTo(root, l, api.MaxData); len(s) != api.MaxData {
		t.Fatal(len(s))
	}
	mustStand(t, d, mustDo(t, x, m, call{l: l, rows: 100, most: 20000}))
}

func TestP173Known(t *testing.T) {
	d, x, m := tableOf(9000, addA, addG)
	m = mustDo(t, x, m, m.appendOf("{a:1,g:[]}", "{a:2,g:[{c:7},{c:8}]}"))
	m = mustDo(t, x, m, call{line: "widen 1"}, call{line: "add 2 optional bytes d;"}, call{line: "move 1 1"}, call{line: "rename 1 n"})
	m = mustDo(t, x, m, m.appendOf(`{g:[{c:9,d:"x"}],n:3}`))
	for _, y := range []*table.Table{x, must(table.Open(d))} {
		for _, c := range []struct {
			snapshot int
			ids      []int
			where    string
			want     string
		}{
			{0, []int{0}, "", `{g:[],n:1} {g:[{c:7,d:null},{c:8,d:null}],n:2} {g:[{c:9,d:"x"}],n:3}`},
			{1, []int{0}, "", `{g:[],n:1} {g:[{c:7,d:null},{c:8,d:null}],n:2}`},
			{2, []int{0}, "", ``},
			{0, []int{1}, "", `{n:1} {n:2} {n:3}`},
			{0, []int{4, 4}, "", `{g:[]} {g:[{d:null},{d:null}]} {g:[{d:"x"}]}`},
			{0, []int{2, 1}, "#1 >= 2", `{g:[{c:7,d:null},{c:8,d:null}],n:2} {g:[{c:9,d:"x"}],n:3}`},
			{0, []int{1}, `#4 = "x" | #3 is null`, `{n:1} {n:3}`},
			{1, []int{1}, "#4 is null & #3 > 7", `{n:2}`},
			{0, []int{3}, "#1 > 5", ``},
			{2, []int{3}, "#1 > 5", ``},
		} {
			l, err := y.Scan(c.snapshot, c.ids, c.where)
			if err != nil {
				t.Fatal(c, err)
			}
			part := must(schema.Project(y.Schema(), c.ids))
			var texts []string
			for _, d := range l {
				texts = append(texts, must(data.Text(part, d)))
			}
			if got := strings.Join(texts, " "); got != c.want {
				t.Errorf("%+v: %s", c, got)
			}
		}
	}
	mustBe(t, x, m)
}

// TestP173Files: each is a file, under the schema of then.
func TestP173Files(t *testing.T) {
	_, x, m := tableOf(9000, addA)
	was := x.Schema()
	m = mustDo(t, x, m, m.appendOf("{a:1}"), call{line: "widen 1"})
	mustDo(t, x, m, m.appendOf("{a:2}"))
	l := must(x.Files(0))
	for i, root := range []api.Node{was, x.Schema()} {
		got, records, err := file.Read(l[i])
		if must(schema.Text(got)) != must(schema.Text(root)) || err != nil || told(records) != told(recordsOf(root, "{a:"+strconv.Itoa(i+1)+"}")) {
			t.Error(i, got, records, err)
		}
	}
}

func TestP173ScanErrors(t *testing.T) {
	_, bareOne, _ := tableOf(9000)
	_, full, m := tableOf(9000, addA, addG)
	mustDo(t, full, m, m.appendOf("{a:1,g:[]}"), m.appendOf("{a:2,g:[]}"))
	_, dropped, m := tableOf(9000, addA)
	mustDo(t, dropped, m, m.appendOf("{a:1}"), call{line: "drop 1"})
	long := "#1 > 1" + strings.Repeat(" | #1 > 1", 1000)
	deep := strings.Repeat("(", 7) + "#1 > 1" + strings.Repeat(")", 7)
	for _, k := range []int{0, 1, 2} { // of these the last one has no files
		for _, c := range []struct {
			ids   []int
			where string
			want  error
		}{
			{[]int{0}, "x", api.ErrText}, {[]int{9}, "x", api.ErrText}, {nil, " ", api.ErrText}, {nil, "#1 > 1 ", api.ErrText}, {nil, "#2 is null", api.ErrText}, {nil, `#1 = "x"`, api.ErrText},
			{[]int{0}, long, api.ErrBound}, {[]int{9}, long, api.ErrBound}, {nil, deep, api.ErrBound},
			{[]int{9}, "", api.ErrNone}, {[]int{0, 9}, "#1 > 1", api.ErrNone}, {[]int{-1}, "", api.ErrNone}, {[]int{math.MaxInt}, "", api.ErrNone},
			{nil, "", api.ErrShape}, {[]int{}, "#1 > 1", api.ErrShape},
		} {
			if l, err := full.Scan(k, c.ids, c.where); l != nil || err != c.want {
				t.Errorf("%d, %v, %.20q: %v, %v, not %v", k, c.ids, c.where, l, err, c.want)
			}
		}
	}
	for _, x := range []*table.Table{bareOne, dropped} {
		for _, c := range []struct {
			ids   []int
			where string
		}{{[]int{0}, ""}, {nil, ""}, {[]int{9}, "x"}, {[]int{1}, "#1 > 1"}, {nil, long}} {
			if l, err := x.Scan(0, c.ids, c.where); l != nil || err != api.ErrShape {
				t.Errorf("%v, %.20q: %v, %v", c.ids, c.where, l, err)
			}
		}
	}
	for _, x := range []*table.Table{bareOne, full, dropped} {
		for _, k := range []int{-1, 4, x.Snapshots(), math.MaxInt, math.MinInt} {
			l, err := x.Scan(k, nil, "x")
			f, bad := x.Files(k)
			if l != nil || f != nil || err != api.ErrBound || bad != api.ErrBound {
				t.Error(k, l, f, err, bad)
			}
		}
	}
}
