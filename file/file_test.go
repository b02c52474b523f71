package file_test

import (
	"fmt"
	"hash/crc32"
	"math"
	"math/rand"
	"reflect"
	"slices"
	"strings"
	"testing"

	"shredcol/api"
	"shredcol/chunk"
	"shredcol/data"
	"shredcol/file"
	"shredcol/schema"
	"shredcol/shred"
	"shredcol/wire"
)

// Bare errors are held by ==, since those without a place must not be wrapped.

func schemaOf(s string) api.Node {
	root, err := schema.Read(s)
	if err != nil {
		panic(s + ": " + err.Error())
	}
	return root
}

func recordsOf(root api.Node, texts ...string) []api.Datum {
	var l []api.Datum
	for _, s := range texts {
		d, err := data.Read(root, s)
		if err != nil {
			panic(s + ": " + err.Error())
		}
		l = append(l, d)
	}
	return l
}

func leavesOf(root api.Node) []schema.Leaf {
	l, err := schema.Leaves(root)
	if err != nil {
		panic(err)
	}
	return l
}

// told of records: a nil list and an empty one are one thing.
func told(root api.Node, l []api.Datum) string {
	var b strings.Builder
	fmt.Fprintf(&b, "%+v\n", root)
	for _, d := range l {
		fmt.Fprintf(&b, "%+v\n", d)
	}
	return b.String()
}

var nothing = told(api.Node{}, nil)

// brief: what a failure tells of something that may be long.
func brief(something any) string {
	return fmt.Sprintf("%.400q", fmt.Sprintf("%+v", something))
}

func isFault(err error, at int, why error) bool {
	f, ok := err.(*api.Fault)
	return ok && f.At == at && f.Err == why
}

// little: four bytes, the lowest first.
func little(n uint32) string {
	return string([]byte{byte(n), byte(n >> 8), byte(n >> 16), byte(n >> 24)})
}

// sealed: the file of these chunks and this footer, with the sum as the library has it.
func sealed(chunks, footer string) string {
	return "SHC1" + chunks + footer + little(uint32(len(footer))) + little(crc32.ChecksumIEEE([]byte(footer))) + "SHC1"
}

// entryOf a footer.
func entryOf(number uint64, text string) string {
	return wire.Uvarint(number) + wire.Uvarint(uint64(len(text))) + text
}

func numbers(l ...int) string {
	s := ""
	for _, n := range l {
		s += wire.Uvarint(uint64(n))
	}
	return s
}

// group of a file that is made by hand: it says how many records it has.
type group struct {
	records int
	chunks  []string
}

// made: the chunks of these groups, and what the footer's entry 2 tells of them.
func made(groups ...group) (chunks, tells string) {
	for _, g := range groups {
		tells += numbers(g.records)
		for _, c := range g.chunks {
			tells += numbers(4+len(chunks), len(c))
			chunks += c
		}
	}
	return chunks, tells
}

// fileOf groups under a schema.
func fileOf(schemaText string, groups ...group) string {
	chunks, tells := made(groups...)
	return sealed(chunks, entryOf(1, schemaText)+entryOf(2, tells))
}

// groupOf records, with pages of most entries.
func groupOf(root api.Node, l []api.Datum, most int) group {
	cols, err := shred.Shred(root, l)
	if err != nil {
		panic(err)
	}
	g := group{records: len(l)}
	for i, leaf := range leavesOf(root) {
		s, err := chunk.Write(leaf, cols[i], most)
		if err != nil {
			panic(err)
		}
		g.chunks = append(g.chunks, s)
	}
	return g
}

func textOf(root api.Node) string {
	s, err := schema.Text(root)
	if err != nil {
		panic(err)
	}
	return s
}

func mustWrite(t *testing.T, root api.Node, l []api.Datum, rows, most int) string {
	t.Helper()
	s, err := file.Write(root, l, rows, most)
	if err != nil {
		t.Fatalf("%s by %d, %d: %v", brief(told(root, l)), rows, most, err)
	}
	return s
}

func mustRead(t *testing.T, s string, root api.Node, l []api.Datum) {
	t.Helper()
	m, x, err := file.Read(s)
	if told(m, x) != told(root, l) || err != nil {
		t.Fatalf("%s: %s, %v, not %s", brief(s), brief(told(m, x)), err, brief(told(root, l)))
	}
}

// anySchema: right, with nodes of all kinds.
func anySchema(r *rand.Rand, left int) api.Node {
	ids := r.Perm(api.MaxID)
	var nodes func(deep int) []api.Node
	nodes = func(deep int) []api.Node {
		var l []api.Node
		for left > 0 && (len(l) == 0 || r.Intn(3) > 0) {
			left--
			n := api.Node{ID: ids[left] + 1, Name: string(rune('a'+len(l)%26)) + []string{"", "a"}[len(l)/26], Rep: 1 + r.Intn(3), Kind: 1 + r.Intn(5)}
			if left > 0 && deep < api.MaxDeep && r.Intn(3) > 0 {
				n.Kind, n.Sub = api.Group, nodes(deep+1)
			}
			l = append(l, n)
		}
		return l
	}
	return api.Node{Name: "root", Rep: api.Required, Kind: api.Group, Sub: nodes(2)}
}

func anyValue(r *rand.Rand, kind int) api.Value {
	v := api.Value{Kind: kind}
	switch kind {
	case api.Bool:
		v.N = int64(r.Intn(2))
	case api.Int:
		v.N = int64(int32(r.Uint64()))
	case api.Long, api.Double:
		v.N = int64(r.Uint64())
	case api.Bytes:
		b := make([]byte, r.Intn(4))
		r.Read(b)
		v.S = string(b)
	}
	return v
}

// anyDatum that is right for the node.
func anyDatum(r *rand.Rand, n api.Node) api.Datum {
	if n.Rep == api.Optional && r.Intn(3) == 0 {
		return api.Datum{None: true}
	}
	var d api.Datum
	if n.Rep == api.Repeated {
		n.Rep = api.Required
		for range r.Intn(4) {
			d.L = append(d.L, anyDatum(r, n))
		}
		return d
	}
	if n.Kind != api.Group {
		return api.Datum{V: anyValue(r, n.Kind)}
	}
	for _, in := range n.Sub {
		d.F = append(d.F, anyDatum(r, in))
	}
	return d
}

func anyRecords(r *rand.Rand, nodes, records int) (api.Node, []api.Datum) {
	root := anySchema(r, 1+r.Intn(nodes))
	var l []api.Datum
	for range r.Intn(records + 1) {
		l = append(l, anyDatum(r, root))
	}
	return root, l
}

// small: a file of two groups, of two records and of one, with two chunks each.
func small() (root api.Node, l []api.Datum) {
	root = schemaOf("required int a #1; repeated bytes b #2;")
	return root, recordsOf(root, `{a:7,b:["x","y"]}`, `{a:8,b:[]}`, `{a:9,b:["z"]}`)
}

func TestP120Known(t *testing.T) {
	root, l := small()
	chunks := "P\x17\xf3\x80\x01h\x02\x00\x01\x02\x04\a\x00\x00\x00\x04\b\x00\x00\x00\x01\x03\x01\x03\x02\x03\x0e\x02\x00" + // 29: 7, 8
		"P\x16\x16\xf98\xeb\x02\x00\x01\x04\x02\x01x\x02\x01y\x02\x03\x02\x02\x03\x03\x00\x04\x01x\x01y" + // 28: x, y
		"P\v|\xe4s^\x01\x01\x00\x02\x03\x00\x02\x03\x00\x00\x00" + // 17: none
		"P\x15\x06\xea\xc0<\x01\x00\x01\x02\x04\t\x00\x00\x00\x04\t\x00\x00\x00\x01\x03\x01\x03\x02\x01\x12" + // 27: 9
		"P\x14!\x8e\xc3\xac\x01\x00\x01\x04\x02\x01z\x02\x01z\x02\x03\x00\x02\x03\x01\x00\x02\x01z" // 26: z
	footer := "\x01\x28required int a #1;\nrepeated bytes b #2;\n" + "\x02\x0a\x02\x04\x1d\x21\x2d\x01\x4e\x1b\x69\x1a"
	want := "SHC1" + chunks + footer + "\x36\x00\x00\x00\x92\x83\xa6\x0eSHC1"
	if s := mustWrite(t, root, l, 2, 2); s != want {
		t.Errorf("%q, not %q", s, want)
	}
	mustRead(t, want, root, l)
	none := "SHC1\x01\x28required int a #1;\nrepeated bytes b #2;\n\x02\x00\x2c\x00\x00\x00\x10\x35\x14\x0cSHC1"
	for _, records := range [][]api.Datum{nil, {}} {
		if s := mustWrite(t, root, records, 2, 2); s != none {
			t.Errorf("%q, not %q", s, none)
		}
	}
	mustRead(t, none, root, nil)
}

func TestP121ByTheRule(t *testing.T) {
	r := rand.New(rand.NewSource(121))
	for range 1500 {
		root, l := anyRecords(r, 12, 12)
		rows, most := 1+r.Intn(13), 1+r.Intn(9)
		if r.Intn(10) == 0 {
			rows, most = api.MaxRecords, api.MaxEntries
		}
		var groups []group
		for left := l; len(left) > 0; left = left[min(rows, len(left)):] {
			groups = append(groups, groupOf(root, left[:min(rows, len(left))], most))
		}
		want := fileOf(textOf(root), groups...)
		if s := mustWrite(t, root, l, rows, most); s != want {
			t.Fatalf("%s by %d, %d: %q, not %q", brief(told(root, l)), rows, most, s, want)
		}
	}
}

// TestP121Groups: how many records each group has.
func TestP121Groups(t *testing.T) {
	root := schemaOf("required int a #1;")
	var all []api.Datum
	for n := range api.MaxRecords {
		all = append(all, recordsOf(root, fmt.Sprintf("{a:%d}", n))...)
	}
	for _, c := range []struct {
		records, rows int
		want          []int
	}{
		{0, 1, nil}, {0, 100, nil}, {1, 1, []int{1}}, {1, 100, []int{1}}, {2, 1, []int{1, 1}}, {3, 2, []int{2, 1}}, {4, 2, []int{2, 2}},
		{7, 3, []int{3, 3, 1}}, {100, 99, []int{99, 1}}, {100, 100, []int{100}}, {99, 100, []int{99}}, {100, 1, slices.Repeat([]int{1}, 100)},
	} {
		s := mustWrite(t, root, all[:c.records], c.rows, 4)
		f, err := file.Open(s)
		if err != nil {
			t.Fatal(err)
		}
		var got []int
		for _, g := range f.Groups {
			got = append(got, g.Records)
		}
		if !slices.Equal(got, c.want) {
			t.Errorf("%d by %d: %v, not %v", c.records, c.rows, got, c.want)
		}
		mustRead(t, s, root, all[:c.records])
	}
}

// TestP121Pages: a page has as many whole records as have at most most entries.
func TestP121Pages(t *testing.T) {
	root := schemaOf("repeated int a #1;")
	l := recordsOf(root, "{a:[1,2]}", "{a:[3]}", "{a:[4,5,6]}", "{a:[]}", "{a:[7]}")
	for most, want := range map[int][]int{1: {1, 1, 1, 1, 1}, 2: {1, 1, 1, 2}, 3: {2, 1, 2}, 4: {2, 2, 1}, 5: {2, 3}, 6: {3, 2}, 7: {4, 1}, 8: {5}, api.MaxEntries: {5}} {
		s := mustWrite(t, root, l, 100, most)
		f, err := file.Open(s)
		if err != nil || len(f.Groups) != 1 {
			t.Fatal(f, err)
		}
		spot := f.Groups[0].Chunks[0]
		marks, err := chunk.Marks(leavesOf(root)[0], s[spot.At:spot.At+spot.Len])
		var got []int
		for _, m := range marks {
			got = append(got, m.Records)
		}
		if !slices.Equal(got, want) || err != nil {
			t.Errorf("by %d: %v, %v, not %v", most, got, err, want)
		}
	}
}

func TestP121Bounds(t *testing.T) {
	root, l := small()
	wrong := root
	wrong.Sub = nil
	for _, c := range [][2]int{{0, 1}, {-1, 1}, {101, 1}, {math.MaxInt, 1}, {math.MinInt, 1}, {1, 0}, {1, -1}, {1, 20001}, {1, math.MaxInt}, {1, math.MinInt}, {0, 0}, {101, 20001}} {
		for _, records := range [][]api.Datum{l, nil} {
			if s, err := file.Write(root, records, c[0], c[1]); s != "" || err != api.ErrBound {
				t.Errorf("%v: %q, %v", c, s, err)
			}
		}
		// Shred's errors are told first.
		if s, err := file.Write(wrong, l, c[0], c[1]); s != "" || err != api.ErrShape {
			t.Errorf("%v: %q, %v", c, s, err)
		}
		if s, err := file.Write(root, append(slices.Clone(l), api.Datum{}), c[0], c[1]); s != "" || !isFault(err, 3, api.ErrShape) {
			t.Errorf("%v: %q, %v", c, s, err)
		}
	}
	for _, c := range [][2]int{{1, 1}, {100, 1}, {1, 20000}, {100, 20000}} {
		mustRead(t, mustWrite(t, root, l, c[0], c[1]), root, l)
	}
}

// TestP121ShredsErrors of all records, not of a group's.
func TestP121ShredsErrors(t *testing.T) {
	root, l := small()
	for at := range 7 {
		many := slices.Repeat(l, 3)
		many[at] = api.Datum{F: []api.Datum{{V: api.Value{Kind: api.Long}}, {}}}
		many[8] = api.Datum{None: true}
		for rows := 1; rows < 10; rows++ {
			if s, err := file.Write(root, many, rows, 1); s != "" || !isFault(err, at, api.ErrKind) {
				t.Errorf("%d by %d: %q, %v", at, rows, s, err)
			}
		}
	}
	many := slices.Repeat(l[1:2], 101)
	if s, err := file.Write(root, many, 1, 1); s != "" || err != api.ErrBound {
		t.Errorf("101 records: %d bytes, %v", len(s), err)
	}
	mustRead(t, mustWrite(t, root, many[:100], 7, 3), root, many[:100])
	twice := root
	twice.Sub = []api.Node{root.Sub[0], root.Sub[0]}
	if s, err := file.Write(twice, nil, 1, 1); s != "" || err != api.ErrName {
		t.Errorf("%q, %v", s, err)
	}
	// More entries than a column may have, though no group has as many.
	root = schemaOf("repeated group a #1 { repeated bool b #2; }")
	row := api.Datum{F: []api.Datum{{L: slices.Repeat([]api.Datum{{V: api.Value{Kind: api.Bool, N: 1}}}, api.MaxList)}}}
	record := api.Datum{F: []api.Datum{{L: slices.Repeat([]api.Datum{row}, api.MaxList)}}}
	all := slices.Repeat([]api.Datum{record}, 13) // 1600 entries each
	for _, rows := range []int{1, 12, 13, 100} {
		if s, err := file.Write(root, all, rows, 100); s != "" || err != api.ErrBound {
			t.Errorf("by %d: %d bytes, %v", rows, len(s), err)
		}
		mustRead(t, mustWrite(t, root, all[:12], rows, 100), root, all[:12])
	}
}

// TestP121LongFiles are written, too; Open does not take them.
func TestP121LongFiles(t *testing.T) {
	r := rand.New(rand.NewSource(1211))
	root := schemaOf("repeated group a #1 { repeated bytes b #2; }")
	record := api.Datum{F: []api.Datum{{}}}
	for range api.MaxList {
		row := api.Datum{F: []api.Datum{{}}}
		for range api.MaxList {
			b := make([]byte, api.MaxBytes)
			r.Read(b)
			row.F[0].L = append(row.F[0].L, api.Datum{V: api.Value{Kind: api.Bytes, S: string(b)}})
		}
		record.F[0].L = append(record.F[0].L, row)
	}
	s := mustWrite(t, root, []api.Datum{record}, 1, 1)
	mustRead(t, s, root, []api.Datum{record})
	l := []api.Datum{record, record}
	s = mustWrite(t, root, l, 1, 1)
	if want := fileOf(textOf(root), groupOf(root, l[:1], 1), groupOf(root, l[1:], 1)); s != want || len(s) <= api.MaxData {
		t.Errorf("%d bytes, not %d", len(s), len(want))
	}
	if f, err := file.Open(s); fmt.Sprint(f) != fmt.Sprint(file.Footer{}) || err != api.ErrBound {
		t.Error(brief(f), err)
	}
	if m, x, err := file.Read(s); told(m, x) != nothing || err != api.ErrBound {
		t.Error(brief(told(m, x)), err)
	}
	if p, err := file.Pass(s, 3, ""); p != "" || err != api.ErrBound {
		t.Error(len(p), err)
	}
}

func TestP124Known(t *testing.T) {
	root, l := small()
	s := mustWrite(t, root, l, 2, 2)
	f, err := file.Open(s)
	if err != nil {
		t.Fatal(err)
	}
	end := len(s) - 12
	chunks, footer := s[4:end-f.Len], s[end-f.Len:end]
	entries := ""
	for _, c := range []struct {
		number int
		text   string
		want   string
	}{
		{7, "more", "\x07\x04more"}, {3, "", "\x03\x00"}, {1000, "\x00\xff", "\xe8\x07\x02\x00\xff"}, {7, "more", "\x07\x04more"},
		{127, strings.Repeat("x", 128), "\x7f\x80\x01" + strings.Repeat("x", 128)}, {128, "\x01\x00\x02\x00", "\x80\x01\x04\x01\x00\x02\x00"},
	} {
		s, err = file.Pass(s, c.number, c.text)
		entries = c.want + entries
		if want := sealed(chunks, entries+footer); s != want || err != nil {
			t.Fatalf("%q, %v, not %q", s, err, want)
		}
		mustRead(t, s, root, l)
		now, err := file.Open(s)
		if now.Len != len(entries)+f.Len || err != nil || !reflect.DeepEqual(now.Groups, f.Groups) {
			t.Fatalf("%+v, %v", now, err)
		}
	}
}

// TestP124Kept: what other entries there are, and where, stays.
func TestP124Kept(t *testing.T) {
	root, l := small()
	chunks, tells := made(groupOf(root, l, 5))
	footer := entryOf(9, "a") + entryOf(1, " "+textOf(root)) + entryOf(1<<60, "b") + entryOf(2, tells) + entryOf(9, "c")
	s, err := file.Pass(sealed(chunks, footer), 9, "d")
	if want := sealed(chunks, "\x09\x01d"+footer); s != want || err != nil {
		t.Fatalf("%q, %v, not %q", s, err, want)
	}
	mustRead(t, s, root, l)
}

func TestP124Errors(t *testing.T) {
	root, l := small()
	s := mustWrite(t, root, l, 2, 2)
	for _, number := range []int{2, 1, 0, -1, 1001, 1024, math.MaxInt, math.MinInt, 1<<32 + 3, -3} {
		if p, err := file.Pass(s, number, "x"); p != "" || err != api.ErrBound {
			t.Errorf("%d: %q, %v", number, p, err)
		}
		// Open's errors are told first.
		if p, err := file.Pass(s[1:], number, "x"); p != "" || err != api.ErrText {
			t.Errorf("%d: %q, %v", number, p, err)
		}
		if p, err := file.Pass(s[:len(s)-5]+"?SHC1", number, "x"); p != "" || err != api.ErrSum {
			t.Errorf("%d: %q, %v", number, p, err)
		}
	}
	if p, err := file.Pass("", 3, ""); p != "" || err != api.ErrText {
		t.Errorf("%q, %v", p, err)
	}
	if p, err := file.Pass(strings.Repeat("x", api.MaxData+1), 3, ""); p != "" || err != api.ErrBound {
		t.Errorf("%q, %v", p, err)
	}
	// A footer that is none, with its right sum.
	if p, err := file.Pass(sealed("", entryOf(1, textOf(root))), 3, ""); p != "" || err != api.ErrText {
		t.Errorf("%q, %v", p, err)
	}
	// Chunks are not looked into.
	turned := "SHC1Q" + s[5:]
	if p, err := file.Pass(turned, 3, ""); len(p) != len(s)+2 || err != nil {
		t.Errorf("%q, %v", p, err)
	}
}

// TestP124Bound: just MaxData bytes are allowed.
func TestP124Bound(t *testing.T) {
	root, l := small()
	s := mustWrite(t, root, l, 2, 2)
	room := api.MaxData - len(s) - 4 // a number of one byte, a length of three
	p, err := file.Pass(s, 3, strings.Repeat("x", room))
	if len(p) != api.MaxData || err != nil {
		t.Fatal(len(p), err)
	}
	mustRead(t, p, root, l)
	if q, err := file.Pass(p, 3, ""); q != "" || err != api.ErrBound {
		t.Error(len(q), err)
	}
	for _, more := range []int{1, 2, 1000, api.MaxData} {
		if p, err := file.Pass(s, 3, strings.Repeat("x", room+more)); p != "" || err != api.ErrBound {
			t.Error(more, len(p), err)
		}
	}
	if p, err := file.Pass(s, 128, strings.Repeat("x", room)); p != "" || err != api.ErrBound {
		t.Error(len(p), err)
	}
	if p, err := file.Pass(s, 128, strings.Repeat("x", room-1)); len(p) != api.MaxData || err != nil {
		t.Error(len(p), err)
	}
}
