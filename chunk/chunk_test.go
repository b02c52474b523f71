package chunk_test

import (
	"errors"
	"fmt"
	"hash/crc32"
	"math"
	"math/rand"
	"slices"
	"strings"
	"testing"

	"shredcol/api"
	"shredcol/bitrun"
	"shredcol/chunk"
	"shredcol/enc"
	"shredcol/page"
	"shredcol/schema"
	"shredcol/stats"
	"shredcol/wire"
)

// Bare errors are held by ==, since those without a place must not be wrapped.

var kinds = []int{api.Bool, api.Int, api.Long, api.Bytes, api.Double}

func number(kind int, n int64) api.Value { return api.Value{Kind: kind, N: n} }

func whole(n int64) api.Value { return number(api.Int, n) }

// someLeaf with both levels, and a column of five records of 3, 1, 2, 1 and 1 entries.
func someLeaf() schema.Leaf {
	return schema.Leaf{ID: 4, Kind: api.Int, MaxRep: 2, MaxDef: 2, Path: []int{1, 2, 4}}
}

func someColumn() api.Column {
	return api.Column{
		ID:     4,
		Rep:    []int{0, 2, 1, 0, 0, 1, 0, 0},
		Def:    []int{2, 2, 1, 0, 2, 2, 2, 1},
		Values: []api.Value{whole(5), whole(-6), whole(7), whole(8), whole(9)},
	}
}

// cut: the entries from up to to, with their values.
func cut(leaf schema.Leaf, c api.Column, from, to int) api.Column {
	part := api.Column{ID: c.ID, Rep: c.Rep[from:to], Def: c.Def[from:to]}
	at := 0
	for i, def := range c.Def {
		if def != leaf.MaxDef {
			continue
		}
		if i >= from && i < to {
			part.Values = append(part.Values, c.Values[at])
		}
		at++
	}
	return part
}

// told of a column: a nil list and an empty one are one thing.
func told(c api.Column) string {
	var b strings.Builder
	fmt.Fprintf(&b, "%d %d %d", c.ID, c.Rep, c.Def)
	for _, v := range c.Values {
		fmt.Fprintf(&b, " %d:%d:%q", v.Kind, v.N, v.S)
	}
	return b.String()
}

var nothing = told(api.Column{})

// brief: what a failure tells of something that may be long.
func brief(something any) string {
	return fmt.Sprintf("%.300q", fmt.Sprintf("%+v", something))
}

// sealed: the page of a body, with the sum as the library has it.
func sealed(body string) string {
	sum := crc32.ChecksumIEEE([]byte(body))
	return "P" + wire.Uvarint(uint64(len(body))) + string([]byte{byte(sum), byte(sum >> 8), byte(sum >> 16), byte(sum >> 24)}) + body
}

// anyPage of entries, whatever their first Rep is: page.Write makes only such as begin
// with a record.
func anyPage(t *testing.T, leaf schema.Leaf, c api.Column) string {
	t.Helper()
	begun := c
	begun.Rep = slices.Clone(c.Rep)
	begun.Rep[0] = 0
	known, err := stats.Of(leaf, begun)
	if err != nil {
		t.Fatal(err)
	}
	code, values, err := enc.Best(leaf.Kind, c.Values)
	if err != nil {
		t.Fatal(err)
	}
	return sealed(stats.Text(known) + levels(t, c.Rep, leaf.MaxRep) + levels(t, c.Def, leaf.MaxDef) + string([]byte{byte(code)}) + wire.Text(values))
}

func levels(t *testing.T, l []int, most int) string {
	t.Helper()
	s, err := bitrun.Runs(l, bitrun.Width(most))
	if err != nil {
		t.Fatal(err)
	}
	return wire.Text(s)
}

func mustWritePage(t *testing.T, leaf schema.Leaf, c api.Column) string {
	t.Helper()
	s, err := page.Write(leaf, c)
	if err != nil {
		t.Fatalf("%s of %+v: %v", brief(c), leaf, err)
	}
	return s
}

// pagesOf a column that is cut at these entries, one page behind the other.
func pagesOf(t *testing.T, leaf schema.Leaf, c api.Column, cuts ...int) string {
	t.Helper()
	s, from := "", 0
	for _, to := range append(slices.Clone(cuts), len(c.Rep)) {
		s += mustWritePage(t, leaf, cut(leaf, c, from, to))
		from = to
	}
	return s
}

func mustWrite(t *testing.T, leaf schema.Leaf, c api.Column, most int) string {
	t.Helper()
	s, err := chunk.Write(leaf, c, most)
	if err != nil {
		t.Fatalf("%s of %+v by %d: %v", brief(c), leaf, most, err)
	}
	return s
}

func mustRead(t *testing.T, leaf schema.Leaf, s string, want api.Column) {
	t.Helper()
	if got, err := chunk.Read(leaf, s); told(got) != told(want) || err != nil {
		t.Fatalf("%s: %s, %v, not %s", brief(s), brief(got), err, brief(want))
	}
}

// mustFail: Read and Marks tell this error, and nothing else.
func mustFail(t *testing.T, leaf schema.Leaf, s string, want error) {
	t.Helper()
	if got, err := chunk.Read(leaf, s); told(got) != nothing || err != want {
		t.Errorf("%s: %s, %v, not %v", brief(s), brief(got), err, want)
	}
	if l, err := chunk.Marks(leaf, s); len(l) != 0 || err != want {
		t.Errorf("%s: marks: %s, %v, not %v", brief(s), brief(l), err, want)
	}
}

func anyValue(r *rand.Rand, kind int) api.Value {
	switch kind {
	case api.Bool:
		return number(kind, int64(r.Intn(2)))
	case api.Bytes:
		return api.Value{Kind: kind, S: strings.Repeat("x", r.Intn(3)) + string([]byte{byte(r.Intn(256))})}
	case api.Int:
		return number(kind, int64(int32(r.Uint32()))>>r.Intn(32))
	}
	return number(kind, int64(r.Uint64())>>r.Intn(64))
}

// anyColumn with a leaf that it is of; records of all sizes.
func anyColumn(r *rand.Rand) (schema.Leaf, api.Column) {
	leaf := schema.Leaf{ID: r.Intn(9), Kind: kinds[r.Intn(len(kinds))], MaxRep: r.Intn(3), MaxDef: r.Intn(3)}
	c := api.Column{ID: leaf.ID}
	often := 1 + r.Intn(6) // how often a record goes on
	for i := range 1 + r.Intn([]int{1, 4, 12, 60}[r.Intn(4)]) {
		rep, def := 0, r.Intn(leaf.MaxDef+1)
		if i > 0 && r.Intn(often) > 0 {
			rep = r.Intn(leaf.MaxRep + 1)
		}
		c.Rep, c.Def = append(c.Rep, rep), append(c.Def, def)
		if def == leaf.MaxDef {
			c.Values = append(c.Values, anyValue(r, leaf.Kind))
		}
	}
	return leaf, c
}

// longColumn of so many entries without a value, in records of so many.
func longColumn(many, record int) (schema.Leaf, api.Column) {
	c := api.Column{ID: 1, Rep: make([]int, many), Def: make([]int, many)}
	for i := range c.Rep {
		if i%record > 0 {
			c.Rep[i] = 1
		}
	}
	return schema.Leaf{ID: 1, Kind: api.Bytes, MaxRep: 1, MaxDef: 1}, c
}

// TestP110Known: where pages end, by the number of entries that they may have.
func TestP110Known(t *testing.T) {
	leaf, c := someLeaf(), someColumn()
	for most, cuts := range map[int][]int{
		1: {3, 4, 6, 7}, 2: {3, 4, 6}, 3: {3, 6}, 4: {4}, 5: {4}, 6: {6}, 7: {7}, 8: nil, 9: nil, 100: nil, api.MaxEntries: nil,
	} {
		if got, want := mustWrite(t, leaf, c, most), pagesOf(t, leaf, c, cuts...); got != want {
			t.Errorf("by %d: %q, not %q", most, got, want)
		}
	}
	// All bytes of a chunk of two pages that are the same.
	one := "P\x0f\x12\x12\x13\x42\x02\x00\x01\x01\x01\x00\x01\x01\x01\x03\x01\x03\x00\x01\x01"
	bools := []api.Value{number(api.Bool, 1), number(api.Bool, 0), number(api.Bool, 1), number(api.Bool, 0)}
	leaf, c = schema.Leaf{ID: 1, Kind: api.Bool}, api.Column{ID: 1, Rep: make([]int, 4), Def: make([]int, 4), Values: bools}
	if got := mustWrite(t, leaf, c, 2); got != one+one {
		t.Errorf("%q", got)
	}
	mustRead(t, leaf, one+one, c)
}

// TestP110OneRecord is one page, however many entries it has.
func TestP110OneRecord(t *testing.T) {
	for _, many := range []int{1, 2, 50, api.MaxEntries} {
		leaf, c := longColumn(many, api.MaxEntries)
		want := mustWritePage(t, leaf, c)
		for _, most := range []int{1, 2, 49, 50, 51, api.MaxEntries} {
			if got := mustWrite(t, leaf, c, most); got != want {
				t.Errorf("%d by %d: %d bytes, not %d", many, most, len(got), len(want))
			}
		}
	}
}

// cutsByTheRule: records apart, then laid together as long as there is room.
func cutsByTheRule(rep []int, most int) []int {
	var sizes, cuts []int
	for _, n := range rep {
		if n == 0 {
			sizes = append(sizes, 0)
		}
		sizes[len(sizes)-1]++
	}
	at, room := 0, most
	for i, size := range sizes {
		if i > 0 && size > room {
			cuts, room = append(cuts, at), most
		}
		at += size
		room -= size
	}
	return cuts
}

func TestP110ByTheRule(t *testing.T) {
	r := rand.New(rand.NewSource(110))
	for range 4000 {
		leaf, c := anyColumn(r)
		most := 1 + r.Intn(len(c.Rep)+2)
		if got, want := mustWrite(t, leaf, c, most), pagesOf(t, leaf, c, cutsByTheRule(c.Rep, most)...); got != want {
			t.Fatalf("%+v by %d: %q, not %q", c, most, got, want)
		}
	}
}

// wrongShapes: a leaf that is none, or a leaf and a column that are not each other's.
func wrongShapes() map[string]func(*schema.Leaf, *api.Column) {
	return map[string]func(*schema.Leaf, *api.Column){
		"kind 0":         func(leaf *schema.Leaf, c *api.Column) { leaf.Kind = api.Group },
		"kind 6":         func(leaf *schema.Leaf, c *api.Column) { leaf.Kind = 6 },
		"MaxRep -1":      func(leaf *schema.Leaf, c *api.Column) { leaf.MaxRep = -1 },
		"MaxRep 41":      func(leaf *schema.Leaf, c *api.Column) { leaf.MaxRep = 41 },
		"MaxDef -1":      func(leaf *schema.Leaf, c *api.Column) { leaf.MaxDef = -1 },
		"MaxDef most":    func(leaf *schema.Leaf, c *api.Column) { leaf.MaxDef = math.MaxInt },
		"another ID":     func(leaf *schema.Leaf, c *api.Column) { c.ID = 5 },
		"a Rep more":     func(leaf *schema.Leaf, c *api.Column) { c.Rep = append(c.Rep, 0) },
		"a Def more":     func(leaf *schema.Leaf, c *api.Column) { c.Def = append(c.Def, 0) },
		"no Rep":         func(leaf *schema.Leaf, c *api.Column) { c.Rep = nil },
		"no Def":         func(leaf *schema.Leaf, c *api.Column) { c.Def, c.Values = nil, nil },
		"Rep 3":          func(leaf *schema.Leaf, c *api.Column) { c.Rep[7] = 3 },
		"Rep -1":         func(leaf *schema.Leaf, c *api.Column) { c.Rep[1] = -1 },
		"Def 3":          func(leaf *schema.Leaf, c *api.Column) { c.Def[3] = 3 },
		"Def -1":         func(leaf *schema.Leaf, c *api.Column) { c.Def[3] = -1 },
		"first Rep 1":    func(leaf *schema.Leaf, c *api.Column) { c.Rep[0] = 1 },
		"a value more":   func(leaf *schema.Leaf, c *api.Column) { c.Values = append(c.Values, whole(6)) },
		"a value less":   func(leaf *schema.Leaf, c *api.Column) { c.Values = c.Values[:4] },
		"values alone":   func(leaf *schema.Leaf, c *api.Column) { c.Rep, c.Def = nil, nil },
		"another MaxRep": func(leaf *schema.Leaf, c *api.Column) { leaf.MaxRep = 1 },
		"another MaxDef": func(leaf *schema.Leaf, c *api.Column) { leaf.MaxDef = 3 },
		"no entries":     func(leaf *schema.Leaf, c *api.Column) { *c = api.Column{ID: 4} },
		"empty lists":    func(leaf *schema.Leaf, c *api.Column) { *c = api.Column{ID: 4, Rep: []int{}, Def: []int{}} },
		"nothing":        func(leaf *schema.Leaf, c *api.Column) { *c = api.Column{} },
	}
}

// TestP110WrongShape is told ahead of the bounds.
func TestP110WrongShape(t *testing.T) {
	for name, spoil := range wrongShapes() {
		for _, most := range []int{1, 3, 8, 0, -1, api.MaxEntries + 1} {
			leaf, c := someLeaf(), someColumn()
			spoil(&leaf, &c)
			if s, err := chunk.Write(leaf, c, most); s != "" || err != api.ErrShape {
				t.Errorf("%s by %d: %q, %v", name, most, s, err)
			}
		}
	}
	// Also of more entries than there may be.
	leaf, c := longColumn(api.MaxEntries+1, 1)
	c.Rep[0] = 1
	if s, err := chunk.Write(leaf, c, 1); s != "" || err != api.ErrShape {
		t.Errorf("%d bytes, %v", len(s), err)
	}
}

// TestP110WrongValue: its place is that in the whole column, not in a page.
func TestP110WrongValue(t *testing.T) {
	for i, v := range []api.Value{{}, number(api.Long, 1), number(api.Bool, 1), {Kind: api.Bytes}, whole(math.MaxInt32 + 1), {Kind: api.Int, S: "x"}, number(6, 0), number(-1, 0)} {
		for at := range 5 {
			for _, most := range []int{1, 3, 8, 0, -1, api.MaxEntries + 1} {
				c := someColumn()
				c.Values[at], c.Values[4] = v, v
				s, err := chunk.Write(someLeaf(), c, most)
				var fault *api.Fault
				if s != "" || !errors.As(err, &fault) || fault.At != at || fault.Err != api.ErrKind {
					t.Errorf("%d at %d by %d: %q, %v", i, at, most, s, err)
				}
			}
		}
	}
}

func TestP110Bounds(t *testing.T) {
	for _, most := range []int{0, -1, math.MinInt, api.MaxEntries + 1, math.MaxInt} {
		if s, err := chunk.Write(someLeaf(), someColumn(), most); s != "" || err != api.ErrBound {
			t.Errorf("by %d: %q, %v", most, s, err)
		}
	}
	for _, record := range []int{1, 7, api.MaxEntries + 1} {
		leaf, c := longColumn(api.MaxEntries+1, record)
		for _, most := range []int{1, 7, api.MaxEntries} {
			if s, err := chunk.Write(leaf, c, most); s != "" || err != api.ErrBound {
				t.Errorf("records of %d by %d: %d bytes, %v", record, most, len(s), err)
			}
			c := cut(leaf, c, 0, api.MaxEntries)
			mustRead(t, leaf, mustWrite(t, leaf, c, most), c)
		}
	}
}

// TestP111AnyPages are read, not only those that Write would make of the column.
func TestP111AnyPages(t *testing.T) {
	leaf, c := someLeaf(), someColumn()
	for _, cuts := range [][]int{nil, {3}, {4}, {6}, {7}, {3, 4}, {3, 7}, {4, 6}, {6, 7}, {3, 4, 6}, {4, 6, 7}, {3, 4, 6, 7}} {
		mustRead(t, leaf, pagesOf(t, leaf, c, cuts...), c)
	}
	// A page's values may be by another code than each other's, and than enc.Best's.
	plain := sealed("\x01\x00\x01\x02\x04\x05\x00\x00\x00\x04\x05\x00\x00\x00" + "\x03\x03\x00\x00" + "\x03\x03\x02\x00" + "\x00\x04\x05\x00\x00\x00")
	mustRead(t, leaf, plain+pagesOf(t, leaf, c, 4), api.Column{
		ID: 4, Rep: slices.Concat([]int{0}, c.Rep), Def: slices.Concat([]int{2}, c.Def), Values: slices.Concat([]api.Value{whole(5)}, c.Values),
	})
	// The ID is the leaf's, as a page tells none.
	for _, id := range []int{0, -1, math.MinInt, math.MaxInt} {
		c.ID = id
		mustRead(t, schema.Leaf{ID: id, Kind: api.Int, MaxRep: 2, MaxDef: 2}, pagesOf(t, someLeaf(), someColumn(), 3), c)
	}
}

// TestP111WrongLeaf is told whatever the text is.
func TestP111WrongLeaf(t *testing.T) {
	right := pagesOf(t, someLeaf(), someColumn(), 3)
	for _, spoil := range []func(*schema.Leaf){
		func(leaf *schema.Leaf) { leaf.Kind = api.Group }, func(leaf *schema.Leaf) { leaf.Kind = 6 },
		func(leaf *schema.Leaf) { leaf.MaxRep = -1 }, func(leaf *schema.Leaf) { leaf.MaxRep = 41 },
		func(leaf *schema.Leaf) { leaf.MaxDef = -1 }, func(leaf *schema.Leaf) { leaf.MaxDef = 41 },
		func(leaf *schema.Leaf) { *leaf = schema.Leaf{} },
	} {
		leaf := someLeaf()
		spoil(&leaf)
		for _, s := range []string{right, "", "x", right + "x", right[:len(right)-1] + "\x77"} {
			mustFail(t, leaf, s, api.ErrShape)
		}
	}
}

// wrongPages: texts that are no page, each with the error that is told of it.
func wrongPages(t *testing.T) map[string]error {
	right := mustWritePage(t, someLeaf(), someColumn())
	turned := []byte(right)
	turned[len(turned)-1] ^= 1
	return map[string]error{
		"x": api.ErrText, "\x00": api.ErrText, "P": api.ErrText, right[1:]: api.ErrText, right[:len(right)-1]: api.ErrText,
		string(turned): api.ErrSum, sealed(""): api.ErrText, sealed("\x00\x00\x00"): api.ErrText, sealed("\x00\x00\x00\x00\x00\x00\x00"): api.ErrText,
		// Of another leaf.
		mustWritePage(t, schema.Leaf{Kind: api.Long}, api.Column{Rep: []int{0}, Def: []int{0}, Values: []api.Value{number(api.Long, 1)}}): api.ErrText,
	}
}

func TestP111WrongPages(t *testing.T) {
	leaf := someLeaf()
	right := mustWritePage(t, leaf, someColumn())
	carried := anyPage(t, leaf, cut(leaf, someColumn(), 1, 4))
	mustFail(t, leaf, "", api.ErrShape)
	for wrong, want := range wrongPages(t) {
		// Behind whatever is right, and ahead of what is told of other pages.
		for _, ahead := range []string{"", right, right + right, carried, right + carried} {
			mustFail(t, leaf, ahead+wrong, want)
		}
	}
	// The first page that is none is told.
	turned := []byte(right)
	turned[len(turned)-1] ^= 1
	mustFail(t, leaf, string(turned)+"x", api.ErrSum)
	mustFail(t, leaf, right+string(turned)+"x", api.ErrSum)
	mustFail(t, leaf, right+"x"+string(turned), api.ErrText)
	for end := 1; end < 2*len(right); end++ {
		if end != len(right) {
			mustFail(t, leaf, (right + right)[:end], api.ErrText)
		}
	}
}

func TestP111FirstRep(t *testing.T) {
	leaf, c := someLeaf(), someColumn()
	right := mustWritePage(t, leaf, c)
	for _, part := range []api.Column{cut(leaf, c, 1, 3), cut(leaf, c, 2, 6), cut(leaf, c, 5, 6)} {
		carried := anyPage(t, leaf, part)
		// It is a page, by itself.
		if got, used, err := page.Read(leaf, carried); told(got) != told(part) || used != len(carried) || err != nil {
			t.Fatalf("%+v, %d, %v", got, used, err)
		}
		for _, s := range []string{carried, carried + right, right + carried, right + carried + right, carried + carried} {
			mustFail(t, leaf, s, api.ErrShape)
		}
	}
}

func TestP111Bound(t *testing.T) {
	leaf, c := longColumn(api.MaxEntries, 1)
	_, broken := longColumn(2, 2)
	most, one := mustWritePage(t, leaf, c), mustWritePage(t, leaf, cut(leaf, c, 0, 1))
	carried := anyPage(t, leaf, cut(leaf, broken, 1, 2))
	but := mustWritePage(t, leaf, cut(leaf, c, 1, api.MaxEntries))
	mustRead(t, leaf, most, c)
	mustRead(t, leaf, one+but, c)
	mustRead(t, leaf, but+one, c)
	for _, s := range []string{most + one, one + most, one + but + one, one + one + but, most + most, strings.Repeat(most, 30), but + strings.Repeat(one, 30)} {
		mustFail(t, leaf, s, api.ErrBound)
		mustFail(t, leaf, s+carried, api.ErrShape)
		mustFail(t, leaf, carried+s, api.ErrShape)
		mustFail(t, leaf, s+"x", api.ErrText)
		mustFail(t, leaf, carried+s+"x", api.ErrText)
	}
	// In pages of one entry, which Write would make by 1.
	mustRead(t, leaf, strings.Repeat(one, api.MaxEntries), c)
	mustFail(t, leaf, strings.Repeat(one, api.MaxEntries+1), api.ErrBound)
}

// spoilt: sometimes not the page that it was, with the error that is told of it then.
func spoilt(r *rand.Rand, one string) (string, error) {
	b := []byte(one)
	switch r.Intn(20) {
	case 0:
		b[len(b)-1] ^= 1
		return string(b), api.ErrSum
	case 1:
		b[0] ^= 1
		return string(b), api.ErrText
	}
	return one, nil
}

// TestP111ByTheRule: pages of all sorts, right and wrong, one behind the other.
func TestP111ByTheRule(t *testing.T) {
	r := rand.New(rand.NewSource(111))
	for range 3000 {
		leaf, c := anyColumn(r)
		s, all := "", api.Column{ID: leaf.ID}
		var first error
		broken := false
		for range r.Intn(5) {
			from := r.Intn(len(c.Rep))
			part := cut(leaf, c, from, from+1+r.Intn(len(c.Rep)-from))
			one, err := spoilt(r, anyPage(t, leaf, part))
			if first == nil {
				first = err
			}
			s += one
			broken = broken || part.Rep[0] != 0
			all.Rep, all.Def, all.Values = append(all.Rep, part.Rep...), append(all.Def, part.Def...), append(all.Values, part.Values...)
		}
		switch {
		case first != nil:
			mustFail(t, leaf, s, first)
		case broken || s == "":
			mustFail(t, leaf, s, api.ErrShape)
		default:
			mustRead(t, leaf, s, all)
		}
	}
}
