package file_test

import (
	"fmt"
	"hash/crc32"
	"math"
	"math/rand"
	"reflect"
	"slices"
	"strings"
	"testing"

	"shredcol/api"
	"shredcol/chunk"
	"shredcol/data"
	"shredcol/file"
	"shredcol/schema"
	"shredcol/shred"
	"shredcol/wire"
)

// toldColumn: a nil list and an empty one are one thing.
func toldColumn(c api.Column) string { return fmt.Sprintf("%+v", c) }

var noColumn = toldColumn(api.Column{})

func mustNotColumn(t *testing.T, s string, f file.Footer, group, id int, want error) {
	t.Helper()
	if c, err := file.Column(s, f, group, id); toldColumn(c) != noColumn || err != want {
		t.Errorf("group %d, leaf %d of %s: %s, %v, not %v", group, id, brief(f), brief(c), err, want)
	}
}

func mustNotRead(t *testing.T, s string, want error) {
	t.Helper()
	if m, x, err := file.Read(s); told(m, x) != nothing || err != want {
		t.Errorf("%s: %s, %v, not %v", brief(s), brief(told(m, x)), err, want)
	}
}

// chunkOf a leaf's entries, with all of them in one page.
func chunkOf(leaf schema.Leaf, c api.Column) string {
	s, err := chunk.Write(leaf, c, api.MaxEntries)
	if err != nil {
		panic(err)
	}
	return s
}

// sealedPage of a body.
func sealedPage(body string) string {
	return "P" + wire.Uvarint(uint64(len(body))) + little(crc32.ChecksumIEEE([]byte(body))) + body
}

func TestP123ColumnKnown(t *testing.T) {
	root, l := small()
	for _, s := range []string{mustWrite(t, root, l, 2, 2), mustWrite(t, root, l, 2, 1), fileOf("required int a #1; repeated bytes b #2;", groupOf(root, l[:2], 9), groupOf(root, l[2:], 9))} {
		f := mustOpen(t, s)
		for _, c := range []struct {
			group, id int
			want      string
		}{
			{0, 1, "{1 [0 0] [0 0] [{2 7 } {2 8 }]}"}, {0, 2, "{2 [0 1 0] [1 1 0] [{4 0 x} {4 0 y}]}"},
			{1, 1, "{1 [0] [0] [{2 9 }]}"}, {1, 2, "{2 [0] [1] [{4 0 z}]}"},
		} {
			if got, err := file.Column(s, f, c.group, c.id); fmt.Sprint(got) != c.want || err != nil {
				t.Errorf("group %d, leaf %d: %v, %v, not %s", c.group, c.id, got, err, c.want)
			}
		}
	}
}

func TestP123ColumnByTheRule(t *testing.T) {
	r := rand.New(rand.NewSource(123))
	for range 500 {
		root, l := anyRecords(r, 12, 12)
		rows := 1 + r.Intn(13)
		s := mustWrite(t, root, l, rows, 1+r.Intn(9))
		f := mustOpen(t, s)
		group := 0
		for part := range slices.Chunk(l, rows) {
			cols, err := shred.Shred(root, part)
			if err != nil {
				t.Fatal(err)
			}
			for _, want := range cols {
				if got, err := file.Column(s, f, group, want.ID); toldColumn(got) != toldColumn(want) || err != nil {
					t.Fatalf("%v, %v, not %v", got, err, want)
				}
			}
			group++
		}
		mustNotColumn(t, s, f, group, leavesOf(root)[0].ID, api.ErrBound)
	}
}

func TestP123ColumnBounds(t *testing.T) {
	root := schemaOf("required int a #1; optional group b #2 { repeated bytes c #3; }")
	l := recordsOf(root, `{a:7,b:{c:["x"]}}`, `{a:8,b:null}`)
	s := mustWrite(t, root, l, 1, 1)
	f := mustOpen(t, s)
	for _, group := range []int{-1, 2, 3, math.MaxInt, math.MinInt, 1 << 32} {
		for _, id := range []int{1, 3, 0, 2, 99, -1} {
			mustNotColumn(t, s, f, group, id, api.ErrBound)
		}
	}
	for _, id := range []int{0, 2, 4, -1, 1000, 1001, math.MaxInt, math.MinInt, 1<<32 + 1} {
		mustNotColumn(t, s, f, 0, id, api.ErrNone)
		mustNotColumn(t, s, f, 1, id, api.ErrNone)
		// Ahead of what is wrong with chunks.
		mustNotColumn(t, strings.Repeat("x", len(s)), f, 1, id, api.ErrNone)
	}
	mustNotColumn(t, s, file.Footer{}, 0, 1, api.ErrBound)
	mustNotColumn(t, "", file.Footer{Root: root}, 0, 1, api.ErrBound)
}

// TestP123Columns: those of some groups, joined, of some leaves.
func TestP123Columns(t *testing.T) {
	root, l := small()
	s := mustWrite(t, root, l, 1, 2)
	f := mustOpen(t, s)
	for _, c := range []struct {
		groups, ids []int
		want        string
	}{
		{[]int{0, 1, 2}, []int{1, 2}, "[{1 [0 0 0] [0 0 0] [{2 7 } {2 8 } {2 9 }]} {2 [0 1 0 0] [1 1 0 1] [{4 0 x} {4 0 y} {4 0 z}]}]"},
		{[]int{0, 2}, []int{2}, "[{2 [0 1 0] [1 1 1] [{4 0 x} {4 0 y} {4 0 z}]}]"},
		{[]int{2, 0}, []int{2, 1}, "[{2 [0 0 1] [1 1 1] [{4 0 z} {4 0 x} {4 0 y}]} {1 [0 0] [0 0] [{2 9 } {2 7 }]}]"},
		{nil, []int{2}, "[{2 [] [] []}]"},
		{[]int{1}, nil, "[]"},
	} {
		if got, err := file.Columns(s, f, c.groups, c.ids); fmt.Sprint(got) != c.want || err != nil {
			t.Errorf("groups %v, leaves %v: %v, %v, not %s", c.groups, c.ids, got, err, c.want)
		}
	}
	for _, c := range []struct {
		groups, ids []int
		want        error
	}{
		{[]int{0, 3}, []int{1}, api.ErrBound}, {[]int{-1}, []int{1, 9}, api.ErrBound}, {[]int{0, 3}, []int{1, 9}, api.ErrNone}, {[]int{0}, []int{0}, api.ErrNone},
	} {
		if got, err := file.Columns(s, f, c.groups, c.ids); len(got) > 0 || err != c.want {
			t.Errorf("groups %v, leaves %v: %v, %v, not %v", c.groups, c.ids, got, err, c.want)
		}
	}
	// So often that there are too many entries.
	if got, err := file.Columns(s, f, make([]int, api.MaxEntries/2), []int{2}); len(got) != 1 || len(got[0].Rep) != api.MaxEntries || err != nil {
		t.Error(len(got), err)
	}
	if got, err := file.Columns(s, f, make([]int, api.MaxEntries/2+1), []int{2}); len(got) > 0 || err != api.ErrShape {
		t.Error(len(got), err)
	}
}

// TestP123LeadsOut: a group that leads out of s is none, whichever of its chunks it is.
func TestP123LeadsOut(t *testing.T) {
	root, l := small()
	s := mustWrite(t, root, l, 2, 2)
	for _, spot := range []file.Spot{
		{At: -1, Len: 1}, {At: 4, Len: -1}, {At: len(s), Len: 1}, {At: 0, Len: len(s) + 1}, {At: 1, Len: len(s)}, {At: len(s) + 1, Len: 0}, {At: len(s) + 1, Len: -1},
		{At: math.MaxInt, Len: 1}, {At: 1, Len: math.MaxInt}, {At: math.MaxInt, Len: math.MaxInt}, {At: math.MinInt, Len: math.MaxInt}, {At: math.MaxInt, Len: math.MinInt}, {At: math.MinInt, Len: math.MinInt}, {At: -5, Len: 4},
	} {
		for place := range 2 {
			f := mustOpen(t, s)
			f.Groups[0].Chunks[place] = spot
			for _, id := range []int{1, 2, 3, 0} {
				mustNotColumn(t, s, f, 0, id, api.ErrBound)
			}
			if c, err := file.Column(s, f, 1, 1); len(c.Values) != 1 || err != nil {
				t.Errorf("the other group: %v, %v", c, err)
			}
		}
	}
	// Where another file is shorter.
	f := mustOpen(t, s)
	end := f.Groups[1].Chunks[1].At + f.Groups[1].Chunks[1].Len
	if c, err := file.Column(s[:end], f, 1, 2); len(c.Values) != 1 || err != nil {
		t.Error(c, err)
	}
	mustNotColumn(t, s[:end-1], f, 1, 2, api.ErrBound)
	mustNotColumn(t, s[:end-1], f, 1, 1, api.ErrBound)
	if c, err := file.Column(s[:end-1], f, 0, 1); len(c.Values) != 2 || err != nil {
		t.Error(c, err)
	}
	// A spot without bytes, at the end of s, does not lead out; it is no chunk.
	f.Groups[0].Chunks[0] = file.Spot{At: len(s)}
	mustNotColumn(t, s, f, 0, 1, api.ErrShape)
	if c, err := file.Column(s, f, 0, 2); len(c.Values) != 2 || err != nil {
		t.Error(c, err)
	}
}

// TestP123OtherFooters than Open makes.
func TestP123OtherFooters(t *testing.T) {
	root, l := small()
	s := mustWrite(t, root, l, 2, 2)
	f := mustOpen(t, s)
	f.Groups[0].Chunks = f.Groups[0].Chunks[:1]
	mustNotColumn(t, s, f, 0, 2, api.ErrBound)
	mustNotColumn(t, s, f, 0, 3, api.ErrNone)
	if c, err := file.Column(s, f, 0, 1); len(c.Values) != 2 || err != nil {
		t.Error(c, err)
	}
	f.Groups[1].Chunks = nil
	mustNotColumn(t, s, f, 1, 1, api.ErrBound)
	// What is no schema has no leaves.
	for _, wrong := range []api.Node{{}, {Name: "root", Rep: api.Required}, {Name: "root", Rep: api.Required, Sub: []api.Node{root.Sub[0], root.Sub[0]}}, root.Sub[0]} {
		f.Root = wrong
		mustNotColumn(t, s, f, 0, 1, api.ErrNone)
	}
	// Of another schema the chunks are other leaves'.
	f = mustOpen(t, s)
	f.Root = schemaOf("required bytes a #5; optional long b #6;")
	mustNotColumn(t, s, f, 0, 5, api.ErrText)
	mustNotColumn(t, s, f, 0, 1, api.ErrNone)
}

func TestP123ChunksErrors(t *testing.T) {
	root, l := small()
	s := mustWrite(t, root, l, 2, 2)
	f := mustOpen(t, s)
	at := f.Groups[0].Chunks[1].At
	turned := func(place int) string {
		b := []byte(s)
		b[place] ^= 1
		return string(b)
	}
	for place, want := range map[int]error{at: api.ErrText, at + 2: api.ErrSum, at + 6: api.ErrSum, at + 27: api.ErrSum, at + 28: api.ErrText, at + 30: api.ErrSum, at + 44: api.ErrSum} {
		mustNotColumn(t, turned(place), f, 0, 2, want)
		mustNotRead(t, turned(place), want)
		for _, other := range [][2]int{{0, 1}, {1, 1}, {1, 2}} {
			if _, err := file.Column(turned(place), f, other[0], other[1]); err != nil {
				t.Errorf("%d turned, %v: %v", place, other, err)
			}
		}
	}
	// A body with its right sum that is none.
	leaf := leavesOf(root)
	good := groupOf(root, l, 9)
	for _, c := range []struct {
		chunk string
		want  error
	}{
		{"", api.ErrShape},
		{sealedPage(""), api.ErrText},
		{good.chunks[1] + "x", api.ErrText},
		{good.chunks[0], api.ErrText},
		{strings.Repeat(chunkOf(leaf[1], api.Column{ID: 2, Rep: make([]int, 10001), Def: make([]int, 10001)}), 2), api.ErrBound},
	} {
		s := fileOf(textOf(root), group{3, []string{good.chunks[0], c.chunk}})
		mustNotColumn(t, s, mustOpen(t, s), 0, 2, c.want)
		mustNotRead(t, s, c.want)
	}
}

// TestP123OtherRecords: a column with another number of records than its group.
func TestP123OtherRecords(t *testing.T) {
	root, l := small()
	g := groupOf(root, l, 2)
	for _, records := range []int{1, 2, 4, 5, api.MaxData} {
		s := fileOf(textOf(root), group{records, g.chunks})
		f := mustOpen(t, s)
		for id := 1; id <= 2; id++ {
			mustNotColumn(t, s, f, 0, id, api.ErrShape)
		}
		mustNotRead(t, s, api.ErrShape)
	}
	s := fileOf(textOf(root), g)
	f := mustOpen(t, s)
	for _, records := range []int{0, -1, -3, math.MaxInt, math.MinInt} {
		f.Groups[0].Records = records
		mustNotColumn(t, s, f, 0, 1, api.ErrShape)
	}
	// One leaf's column alone has as many.
	other := groupOf(root, l[:2], 2)
	s = fileOf(textOf(root), group{3, []string{g.chunks[0], other.chunks[1]}})
	f = mustOpen(t, s)
	mustNotColumn(t, s, f, 0, 2, api.ErrShape)
	if c, err := file.Column(s, f, 0, 1); len(c.Values) != 3 || err != nil {
		t.Error(c, err)
	}
	mustNotRead(t, s, api.ErrShape)
	// What is wrong with the chunk is told first.
	s = fileOf(textOf(root), group{7, []string{g.chunks[0], other.chunks[1] + "x"}})
	mustNotColumn(t, s, mustOpen(t, s), 0, 2, api.ErrText)
}

// TestP123ReadsOrder: group by group, leaf by leaf; behind all of them, what cannot be assembled.
func TestP123ReadsOrder(t *testing.T) {
	root := schemaOf("repeated group a #1 { required int b #2; required int c #3; }")
	leaves := leavesOf(root)
	good := groupOf(root, recordsOf(root, "{a:[{b:1,c:2},{b:3,c:4}]}"), 9)
	shorter := groupOf(root, recordsOf(root, "{a:[{b:1,c:2}]}"), 9)
	wrong := func(err error) string {
		switch err {
		case api.ErrText:
			return "?"
		case api.ErrSum:
			return "P\x01????x"
		case api.ErrShape:
			return ""
		}
		return strings.Repeat(chunkOf(leaves[0], api.Column{ID: 2, Rep: make([]int, 10001), Def: make([]int, 10001)}), 2)
	}
	all := []error{api.ErrText, api.ErrSum, api.ErrShape, api.ErrBound}
	for _, first := range all {
		for _, second := range all {
			text := textOf(root)
			mustNotRead(t, fileOf(text, group{1, []string{wrong(first), wrong(second)}}), first)
			mustNotRead(t, fileOf(text, group{1, []string{good.chunks[0], wrong(first)}}, group{1, []string{wrong(second), good.chunks[1]}}), first)
			mustNotRead(t, fileOf(text, good, group{1, []string{wrong(first), good.chunks[1]}}, group{1, []string{wrong(second), good.chunks[1]}}), first)
			mustNotRead(t, fileOf(text, good, group{1, []string{good.chunks[0], wrong(first)}}, group{2, good.chunks}), first)
		}
		// Lists that are not as long.
		torn := group{1, []string{good.chunks[0], shorter.chunks[1]}}
		mustNotRead(t, fileOf(textOf(root), torn), api.ErrShape)
		mustNotRead(t, fileOf(textOf(root), good, torn, good), api.ErrShape)
		mustNotRead(t, fileOf(textOf(root), torn, group{1, []string{good.chunks[0], wrong(first)}}), first)
		mustNotRead(t, fileOf(textOf(root), torn, good, group{1, []string{wrong(first), good.chunks[1]}}), first)
	}
	mustRead(t, fileOf(textOf(root), good, shorter), root, recordsOf(root, "{a:[{b:1,c:2},{b:3,c:4}]}", "{a:[{b:1,c:2}]}"))
	// One list of more than MaxList elements.
	long := group{1, nil}
	for _, leaf := range leaves {
		c := api.Column{ID: leaf.ID, Rep: slices.Repeat([]int{1}, 41), Def: slices.Repeat([]int{1}, 41), Values: slices.Repeat([]api.Value{{Kind: api.Int}}, 41)}
		c.Rep[0] = 0
		long.chunks = append(long.chunks, chunkOf(leaf, c))
	}
	mustNotRead(t, fileOf(textOf(root), good, long), api.ErrShape)
}

// TestP123Many: as many records as a column has entries, of all groups together.
func TestP123Many(t *testing.T) {
	root := schemaOf("optional int a #1; optional int b #2;")
	empty := func(records int) group {
		g := group{records: records}
		for _, leaf := range leavesOf(root) {
			g.chunks = append(g.chunks, chunkOf(leaf, api.Column{ID: leaf.ID, Rep: make([]int, records), Def: make([]int, records)}))
		}
		return g
	}
	for _, groups := range [][]group{{empty(20000)}, {empty(10000), empty(10000)}, {empty(19999), empty(1)}, {empty(101)}} {
		records := 0
		for _, g := range groups {
			records += g.records
		}
		mustRead(t, fileOf(textOf(root), groups...), root, slices.Repeat(recordsOf(root, "{a:null,b:null}"), records))
		broken := group{1, []string{"", ""}}
		mustNotRead(t, fileOf(textOf(root), append(slices.Clone(groups), broken)...), api.ErrShape)
		broken.chunks[1] = "?"
		broken.chunks[0] = empty(1).chunks[0]
		mustNotRead(t, fileOf(textOf(root), append(slices.Clone(groups), empty(20000), broken)...), api.ErrText)
		mustNotRead(t, fileOf(textOf(root), append(slices.Clone(groups), empty(20000))...), api.ErrShape)
	}
	mustNotRead(t, fileOf(textOf(root), empty(20000), empty(1)), api.ErrShape)
	// As many groups as have room: what they tell of is not all kept.
	s := fileOf(textOf(root), slices.Repeat([]group{empty(20000)}, 1500)...)
	if len(s) > api.MaxData {
		t.Fatal(len(s))
	}
	mustNotRead(t, s, api.ErrShape)
}

// withMore entries, put in at any places of the footer.
func withMore(r *rand.Rand, s string, root api.Node) string {
	f, err := file.Open(s)
	if err != nil {
		panic(err)
	}
	end := len(s) - 12
	chunks, footer := s[4:end-f.Len], s[end-f.Len:end]
	one := len(entryOf(1, textOf(root)))
	more := func() (l string) {
		for range r.Intn(3) {
			b := make([]byte, r.Intn(200))
			r.Read(b)
			l += entryOf(3+r.Uint64()>>(1+r.Intn(63)), string(b))
		}
		return l
	}
	return sealed(chunks, more()+footer[:one]+more()+footer[one:]+more())
}

func TestP125WrittenAndRead(t *testing.T) {
	r := rand.New(rand.NewSource(125))
	for range 1500 {
		root, l := anyRecords(r, 20, 10)
		s := mustWrite(t, root, l, 1+r.Intn(12), 1+r.Intn(20))
		mustRead(t, s, root, l)
		mustRead(t, withMore(r, s, root), root, l)
		for range r.Intn(3) {
			var err error
			if s, err = file.Pass(s, 3+r.Intn(998), strings.Repeat("x", r.Intn(300))); err != nil {
				t.Fatal(err)
			}
		}
		mustRead(t, s, root, l)
	}
}

// TestP125GreatSchemas: as many nodes, and as many records, as there may be.
func TestP125GreatSchemas(t *testing.T) {
	r := rand.New(rand.NewSource(1251))
	root := api.Node{Name: "root", Rep: api.Required}
	for i := range api.MaxNodes - 1 {
		root.Sub = append(root.Sub, api.Node{ID: api.MaxID - i, Name: strings.Repeat("z", 10) + string([]byte{'a' + byte(i/26), 'a' + byte(i%26)}), Rep: 1 + i%3, Kind: 1 + i%5})
	}
	var l []api.Datum
	for range api.MaxRecords {
		l = append(l, anyDatum(r, root))
	}
	for _, rows := range []int{7, 33, 100} {
		mustRead(t, mustWrite(t, root, l, rows, 50), root, l)
	}
}

// mustBeRight: Read tells an error and nothing else, or records that are right.
func mustBeRight(t *testing.T, s string) (right bool) {
	t.Helper()
	root, l, err := file.Read(s)
	if err != nil {
		if told(root, l) != nothing {
			t.Fatalf("%s: %s, %v", brief(s), brief(told(root, l)), err)
		}
		return false
	}
	if err := schema.Valid(root); err != nil {
		t.Fatalf("%s: %s: %v", brief(s), brief(root), err)
	}
	for _, d := range l {
		if err := data.Check(root, d); err != nil {
			t.Fatalf("%s: %s is not right: %v", brief(s), brief(d), err)
		}
	}
	return true
}

// TestP125TurnedBits of pages and of the footer are told, each one.
func TestP125TurnedBits(t *testing.T) {
	root, l := small()
	s := mustWrite(t, root, l, 2, 2)
	for at := range 8 * len(s) {
		b := []byte(s)
		b[at/8] ^= 1 << (at % 8)
		if mustBeRight(t, string(b)) {
			t.Errorf("bit %d", at)
		}
	}
}

// TestP125WhateverBytes: bytes of the body, of the footer, of pages are changed, with right sums.
func TestP125WhateverBytes(t *testing.T) {
	r := rand.New(rand.NewSource(1252))
	change := func(s string) string {
		b := []byte(s)
		for range 1 + r.Intn(3) {
			if len(b) == 0 {
				return string(b)
			}
			at := r.Intn(len(b))
			switch r.Intn(4) {
			case 0:
				b = slices.Delete(b, at, at+1)
			case 1:
				b = slices.Insert(b, at, byte(r.Intn(256)))
			case 2:
				b[at] = byte(r.Intn(8))
			case 3:
				b[at] ^= 1 << r.Intn(8)
			}
		}
		return string(b)
	}
	pages := func(s string) string {
		out := ""
		for s != "" {
			size, head, err := wire.ReadUvarint(s[1:])
			if err != nil {
				t.Fatal(err)
			}
			end := 5 + head + int(size)
			body := s[5+head : end]
			if r.Intn(4) == 0 {
				body = change(body)
			}
			out += sealedPage(body)
			s = s[end:]
		}
		return out
	}
	right := 0
	for range 20000 {
		root, l := anyRecords(r, 5, 5)
		rows := 1 + r.Intn(5)
		var groups []group
		for part := range slices.Chunk(l, rows) {
			g := groupOf(root, part, 1+r.Intn(4))
			for i := range g.chunks {
				g.chunks[i] = pages(g.chunks[i])
			}
			groups = append(groups, g)
		}
		if len(groups) > 1 && r.Intn(4) == 0 {
			// A leaf's column, of another group.
			place := r.Intn(len(groups[0].chunks))
			groups[0].chunks[place] = groups[1].chunks[place]
		}
		if mustBeRight(t, fileOf(textOf(root), groups...)) {
			right++
		}
		chunks, tells := made(groups...)
		mustBeRight(t, sealed(chunks, change(entryOf(1, textOf(root))+entryOf(2, tells))))
		mustBeRight(t, sealed(chunks, entryOf(1, change(textOf(root)))+entryOf(2, tells)))
		mustBeRight(t, sealed(chunks, entryOf(1, textOf(root))+entryOf(2, change(tells))))
		mustBeRight(t, change(fileOf(textOf(root), groups...)))
	}
	if right < 2000 || right > 18000 {
		t.Error(right)
	}
}

func TestP1WhateverIsGiven(t *testing.T) {
	root, l := small()
	s := mustWrite(t, root, l, 2, 2)
	odd := []int{0, 1, -1, 2, 3, 4, 40, len(s), 1 << 31, 1 << 32, math.MaxInt, math.MinInt}
	texts := []string{"", "S", "SHC1", s, s[:len(s)/2], strings.Repeat("\xff", 100), "SHC1" + strings.Repeat("\xff", 100) + "SHC1", strings.Repeat("\x80", api.MaxData)}
	for _, s := range texts {
		file.Open(s)
		file.Read(s)
		for _, n := range odd {
			file.Pass(s, n, s)
			file.Write(root, l, n, 1)
			file.Write(root, nil, 1, n)
			file.Write(root, l, n, n)
			file.Write(api.Node{}, make([]api.Datum, 3), n, n)
			for _, other := range odd {
				for _, chunks := range [][]file.Spot{nil, {{n, other}}, {{4, 29}, {n, other}}, {{n, n}, {other, other}, {n, other}}} {
					for _, m := range []api.Node{{}, root, {Name: "root", Rep: 1, Sub: make([]api.Node, 50)}} {
						f := file.Footer{Root: m, Groups: []file.Part{{Records: n, Chunks: chunks}}, Len: other}
						file.Column(s, f, 0, 1)
						file.Column(s, f, 0, 2)
						file.Column(s, f, n, other)
					}
				}
			}
		}
	}
	file.Write(api.Node{}, nil, 1, 1)
	file.Column("", file.Footer{}, 0, 0)
	// Nodes that stand in each other far deeper than a schema's may.
	deep := api.Node{Name: "a", Rep: 1}
	for range 10000 {
		deep = api.Node{Name: "a", Rep: 1, Sub: []api.Node{deep}}
	}
	file.Write(deep, l, 1, 1)
	file.Column(s, file.Footer{Root: deep, Groups: make([]file.Part, 1)}, 0, 1)
}

func TestP4ArgumentsAreOnlyRead(t *testing.T) {
	root, l := small()
	roomy := append(slices.Clone(l), api.Datum{None: true}, api.Datum{V: api.Value{N: 7}})
	before := fmt.Sprintf("%+v %+v", root, roomy)
	s := mustWrite(t, root, roomy[:len(l)], 2, 2)
	if after := fmt.Sprintf("%+v %+v", root, roomy); after != before || s != mustWrite(t, root, l, 2, 2) {
		t.Errorf("%s, not %s", after, before)
	}
	f := mustOpen(t, s)
	f.Groups = append(f.Groups, file.Part{})[:2]
	toldAll := func() string { return fmt.Sprintf("%+v %+v", f, f.Groups[:cap(f.Groups)]) }
	before = toldAll()
	for group := range 3 {
		for id := range 3 {
			file.Column(s, f, group, id)
		}
	}
	if after := toldAll(); after != before {
		t.Errorf("%s, not %s", after, before)
	}
}

// spoil everything that can be written to.
func spoil(v reflect.Value) {
	switch v.Kind() {
	case reflect.Int, reflect.Int64:
		v.SetInt(-77)
	case reflect.Struct:
		for i := range v.NumField() {
			spoil(v.Field(i))
		}
	case reflect.Slice:
		v = v.Slice(0, v.Cap())
		for i := range v.Len() {
			spoil(v.Index(i))
		}
	}
}

func TestP4AnswersAreNew(t *testing.T) {
	root, l := small()
	s := mustWrite(t, root, l, 1, 2)
	f := mustOpen(t, s)
	want := toldFooter(f)
	other := mustOpen(t, s)
	c, _ := file.Column(s, f, 0, 2)
	wantColumn := toldColumn(c)
	first, records, _ := file.Read(s)
	spoil(reflect.ValueOf(&c).Elem())
	spoil(reflect.ValueOf(&first).Elem())
	spoil(reflect.ValueOf(&records).Elem())
	if toldFooter(f) != want {
		t.Errorf("%+v, not %s", f, want)
	}
	if c, err := file.Column(s, f, 0, 2); toldColumn(c) != wantColumn || err != nil {
		t.Error(c, err)
	}
	mustRead(t, s, root, l)
	spoil(reflect.ValueOf(&f).Elem())
	if toldFooter(other) != want {
		t.Errorf("%+v, not %s", other, want)
	}
	// No two lists of one answer share memory.
	for i := range other.Groups {
		spoil(reflect.ValueOf(&other.Groups[i].Chunks).Elem())
		for k := i + 1; k < len(other.Groups); k++ {
			if slices.ContainsFunc(other.Groups[k].Chunks, func(c file.Spot) bool { return c.At == -77 || c.Len == -77 }) {
				t.Errorf("groups %d and %d share memory", i, k)
			}
		}
	}
}
