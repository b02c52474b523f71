package table

import (
	"math/rand"
	"reflect"
	"slices"
	"strconv"
	"strings"
	"testing"

	"shredcol/api"
	"shredcol/data"
	"shredcol/disk"
	"shredcol/evolve"
	"shredcol/file"
	"shredcol/wire"
)

// What stands on the disk is free: these tests alone know of it.

func must[T any](x T, err error) T {
	if err != nil {
		panic(err)
	}
	return x
}

// sealed: a state's text with a right sum, whatever it is.
func sealed(body string) string {
	return sign + must(wire.Fixed(uint64(wire.Sum(body)), sumSize)) + body
}

func bodyOf(s state) string { return must(s.text())[len(sign)+sumSize:] }

func fileOf(edits []string, texts ...string) string {
	root, _, err := evolve.Replay(edits)
	must(root, err)
	var l []api.Datum
	for _, s := range texts {
		l = append(l, must(data.Read(root, s)))
	}
	return must(file.Write(root, l, 1, 1))
}

// diskOf a state's text, and of files f0, f1, ..
func diskOf(text string, files ...string) *disk.Disk {
	d := must(disk.New(api.MaxQuota))
	d.Append(tableName, text)
	for i, s := range files {
		d.Append(nameOf(i), s)
	}
	return d
}

func TestP170StateReadAgain(t *testing.T) {
	edits := []string{"add 0 required int a;", "widen 1"}
	f := []stored{{0, 1, 2}, {40, api.MaxData, 1<<32 - 1}, {3, 0, 0}}
	for _, s := range []state{firstState(), {edits, [][]stored{nil, nil}}, {edits[:1], [][]stored{f, f[1:], nil, f[:1]}}, {edits, [][]stored{slices.Repeat(f[:1], mostFiles)}}} {
		got, err := readState(must(s.text()))
		if err != nil || !reflect.DeepEqual(got, s) {
			t.Errorf("%+v, %v, not %+v", got, err, s)
		}
	}
}

// TestP170NoState: texts with a right sum that are no table's.
func TestP170NoState(t *testing.T) {
	const none, one = "\x00", "\x01"
	line := func(l ...string) string {
		s := wire.Uvarint(uint64(len(l)))
		for _, x := range l {
			s += wire.Text(x)
		}
		return s
	}
	right := bodyOf(state{[]string{"add 0 required int a;"}, [][]stored{nil, nil}})
	for i, body := range []string{
		"", none, one, none + none, none + "\x05\x00\x00\x00\x00\x00", right[:len(right)-1], right + none, none + one + "\x15" + strings.Repeat("\x00\x00\x00", 21),
		line("x") + one + none, line("drop 1") + one + none, line("add 0 required int a;", "drop 2") + one + none, line("") + one + none,
		line(slices.Repeat([]string{"move 1 0"}, 61)...) + one + none, "\x80\x00" + one + none, none + "\x81\x00" + none,
		none + one + one + "\x29\x01\x01", none + one + one + "\x00" + wire.Uvarint(api.MaxData+1) + "\x01", none + one + one + "\x00\x01" + wire.Uvarint(1<<32), none + one + one + "\x00\x01",
		"\xff\xff\xff\xff\xff\xff\xff\xff\xff\x01" + one + none, none + "\xff\xff\xff\xff\xff\xff\xff\xff\xff\x01",
	} {
		if s, err := readState(sealed(body)); err != api.ErrText || !reflect.DeepEqual(s, state{}) {
			t.Errorf("%d: %+v, %v", i, s, err)
		}
		if x, err := Open(diskOf(sealed(body))); x != nil || err != api.ErrText {
			t.Errorf("%d: %v, %v", i, x, err)
		}
	}
	for _, text := range []string{"S", sign, sign + "\x00\x00\x00", sign + "\x00\x00\x00\x00", "SHT2" + sealed(right)[4:], sealed(right)[1:]} {
		if x, err := Open(diskOf(text)); x != nil || err != api.ErrText {
			t.Errorf("%q: %v, %v", text, x, err)
		}
	}
	if x, err := Open(diskOf(sealed(right))); x == nil || err != nil {
		t.Error(err)
	}
}

// TestP170NoFiles: what a state names must be a file of records of a schema ahead.
func TestP170NoFiles(t *testing.T) {
	edits := []string{"add 0 required int a;", "widen 1"}
	good := fileOf(edits[:1], "{a:5}")
	for i, c := range []struct {
		s     string
		edits []string
		want  error
	}{
		{good, edits, nil}, {good, edits[:1], nil}, {good, append(edits, "drop 1"), nil}, {good, nil, nil},
		{fileOf(edits, "{a:5}"), edits, nil}, {fileOf(edits, "{a:5}"), edits[:1], api.ErrText},
		{good, []string{"add 0 required bytes a;"}, api.ErrText}, {good, []string{"add 0 required group g { required int a; }"}, api.ErrText},
		{"x", edits, api.ErrText}, {good + "x", edits, api.ErrText}, {good[:len(good)-1], edits, api.ErrText},
		{strings.Repeat("x", api.MaxData), edits, api.ErrText},
	} {
		s := state{c.edits, [][]stored{{storedAs(0, c.s)}, nil}}
		x, err := Open(diskOf(must(s.text()), c.s))
		if err != c.want || (x == nil) != (err != nil) {
			t.Errorf("%d: %v, %v", i, x, err)
		}
	}
}

// TestP1AnyState: whatever stands on the disk, Open tells an error, or a table that can be
// asked and changed.
func TestP1AnyState(t *testing.T) {
	r := rand.New(rand.NewSource(1))
	edits := []string{"add 0 required int a;", "widen 1", "add 0 optional bytes b;", "loosen 1", "rename 2 c"}
	files := []string{fileOf(edits[:1], "{a:1}", "{a:2}"), fileOf(edits[:2], "{a:3}"), fileOf(edits, `{a:4,c:null}`)}
	var f []stored
	for i, s := range files {
		f = append(f, storedAs(i, s))
	}
	body := bodyOf(state{edits, [][]stored{f, f[:2], f[:1], nil}})
	opened := 0
	for range 20000 {
		b := []byte(body)
		for range 1 + r.Intn(3) {
			i := r.Intn(len(b))
			switch r.Intn(4) {
			case 0:
				b[i] ^= 1 << r.Intn(8)
			case 1:
				b = slices.Delete(b, i, i+1)
			case 2:
				b = slices.Insert(b, i, byte(r.Intn(256)))
			default:
				b[i] = "0123456789abci "[r.Intn(15)]
			}
		}
		x, err := Open(diskOf(sealed(string(b)), files...))
		if err != nil {
			if err != api.ErrText || x != nil {
				t.Fatal(x, err)
			}
			continue
		}
		opened++
		for k := range x.Snapshots() {
			if _, err := x.Scan(k, []int{0}, ""); err != nil && len(x.Schema().Sub) > 0 {
				t.Fatalf("%q: %v", b, err)
			}
		}
		if err := x.Append(nil, 1, 1); err != nil && err != api.ErrBound && err != api.ErrShape {
			t.Fatal(err)
		}
	}
	if opened < 30 {
		t.Error(opened)
	}
}

// TestP171MaxFiles: where the disk would have more files than it may, also behind Collect.
// (Appends alone never come so far.)
func TestP171MaxFiles(t *testing.T) {
	edits := []string{"add 0 required int a;"}
	var texts []string
	for i := range 38 {
		texts = append(texts, fileOf(edits, "{a:"+strconv.Itoa(i)+"}"))
	}
	tableOf := func(files int) (*disk.Disk, *Table) {
		d := must(disk.New(api.MaxQuota))
		x := must(Create(d))
		must(0, x.Edit(edits[0]))
		must(0, x.commit(x.behind(nil), texts[:19]...))
		must(0, x.commit(x.behind(nil), texts[19:files]...))
		return d, x
	}
	d, x := tableOf(37)
	must(0, d.Append("left", "x"))
	must(0, x.Append(nil, 1, 1)) // makes room by Collect
	if n := len(d.Names()); n != 39 {
		t.Error(n)
	}
	must(0, x.Edit("widen 1"))
	d, x = tableOf(38)
	must(0, d.Append("left", "x"))
	if err := x.Append(nil, 1, 1); err != api.ErrBound || len(d.Names()) != 39 || x.lost || x.Snapshots() != 3 {
		t.Error(err, d.Names())
	}
	must(0, x.Edit("loosen 1"))
	y := must(Open(d))
	if len(must(y.Files(0))) != 19 || len(y.files()) != 38 || y.Snapshots() != 3 || len(y.Edits()) != 2 {
		t.Error(y.state)
	}
}

// TestP171GoneBehind: a file that is taken away while the table is held.
func TestP171GoneBehind(t *testing.T) {
	d := must(disk.New(9000))
	x := must(Create(d))
	must(0, x.Edit("add 0 required int a;"))
	must(0, x.Append(nil, 1, 1))
	must(0, d.Remove(x.snaps[0][0].name()))
	if l, err := x.Files(0); l != nil || err != api.ErrText {
		t.Error(l, err)
	}
	if l, err := x.Scan(0, []int{0}, ""); l != nil || err != api.ErrText {
		t.Error(l, err)
	}
	if l, err := x.Files(1); len(l) != 0 || err != nil {
		t.Error(l, err)
	}
}
