package page_test

import (
	"errors"
	"fmt"
	"hash/crc32"
	"math"
	"math/rand"
	"slices"
	"strings"
	"testing"

	"shredcol/api"
	"shredcol/bitrun"
	"shredcol/enc"
	"shredcol/page"
	"shredcol/schema"
	"shredcol/shred"
	"shredcol/stats"
	"shredcol/wire"
)

// Bare errors are held by ==, since those without a place must not be wrapped.

var kinds = []int{api.Bool, api.Int, api.Long, api.Bytes, api.Double}

func number(kind int, n int64) api.Value { return api.Value{Kind: kind, N: n} }

func whole(n int64) api.Value { return number(api.Int, n) }

func text(s string) api.Value { return api.Value{Kind: api.Bytes, S: s} }

// someLeaf with both levels, and a column of three records.
func someLeaf() schema.Leaf {
	return schema.Leaf{ID: 4, Kind: api.Int, MaxRep: 2, MaxDef: 2, Path: []int{1, 2, 4}}
}

func someColumn() api.Column {
	return api.Column{ID: 4, Rep: []int{0, 2, 0, 0}, Def: []int{2, 2, 1, 0}, Values: []api.Value{whole(5), whole(-6)}}
}

// told of a column: a nil list and an empty one are one thing.
func told(c api.Column) string {
	var b strings.Builder
	fmt.Fprintf(&b, "%d %d %d", c.ID, c.Rep, c.Def)
	for _, v := range c.Values {
		fmt.Fprintf(&b, " %d:%d:%q", v.Kind, v.N, v.S)
	}
	return b.String()
}

var nothing = told(api.Column{})

// brief: what a failure tells of something that may be long.
func brief(something any) string {
	s := fmt.Sprintf("%+v", something)
	return fmt.Sprintf("%.300q", s)
}

// sealed: the page of a body, with the sum as the library has it.
func sealed(body string) string {
	sum := crc32.ChecksumIEEE([]byte(body))
	return "P" + wire.Uvarint(uint64(len(body))) + string([]byte{byte(sum), byte(sum >> 8), byte(sum >> 16), byte(sum >> 24)}) + body
}

// unsealed: the body of a page.
func unsealed(t *testing.T, s string) string {
	t.Helper()
	size, used, err := wire.ReadUvarint(s[1:])
	if err != nil || len(s) != 1+used+4+int(size) {
		t.Fatalf("%q: %v", s, err)
	}
	return s[1+used+4:]
}

func mustWrite(t *testing.T, leaf schema.Leaf, c api.Column) string {
	t.Helper()
	s, err := page.Write(leaf, c)
	if err != nil {
		t.Fatalf("%s of %+v: %v", brief(c), leaf, err)
	}
	return s
}

// mustRead that a page is this column, whatever stands behind it.
func mustRead(t *testing.T, leaf schema.Leaf, s string, want api.Column) {
	t.Helper()
	for _, behind := range []string{"", "rest", "\x00", "P", s} {
		if got, used, err := page.Read(leaf, s+behind); told(got) != told(want) || used != len(s) || err != nil {
			t.Fatalf("%s with %s behind: %s, %d, %v, not %s", brief(s), brief(behind), brief(got), used, err, brief(want))
		}
	}
}

// mustFail: Read tells this error, and nothing else.
func mustFail(t *testing.T, leaf schema.Leaf, s string, want error) {
	t.Helper()
	if got, used, err := page.Read(leaf, s); told(got) != nothing || used != 0 || err != want {
		t.Errorf("%q: %+v, %d, %v, not %v", s, got, used, err, want)
	}
}

// mustPeek that a page has these stats, whatever stands behind it.
func mustPeek(t *testing.T, leaf schema.Leaf, s string, want stats.Stats) {
	t.Helper()
	for _, behind := range []string{"", "rest", "\x00", "P", s} {
		if got, used, err := page.Peek(leaf, s+behind); got != want || used != len(s) || err != nil {
			t.Fatalf("%s with %s behind: %+v, %d, %v, not %+v", brief(s), brief(behind), got, used, err, want)
		}
	}
}

// mustNotPeek: Peek tells this error, and nothing else.
func mustNotPeek(t *testing.T, leaf schema.Leaf, s string, want error) {
	t.Helper()
	if got, used, err := page.Peek(leaf, s); got != (stats.Stats{}) || used != 0 || err != want {
		t.Errorf("%q: %+v, %d, %v, not %v", s, got, used, err, want)
	}
}

// anyValue of the kind; often one of a few, so that some come again.
func anyValue(r *rand.Rand, kind int) api.Value {
	few := r.Intn(2) == 0
	switch {
	case kind == api.Bool:
		return number(kind, int64(r.Intn(2)))
	case kind == api.Bytes:
		b := make([]byte, r.Intn(4))
		for i := range b {
			b[i] = "\x00a\x7f\xff"[r.Intn(4)]
		}
		if !few {
			b = slices.Concat([]byte(strings.Repeat("x", r.Intn(api.MaxBytes-3))), b)
		}
		return text(string(b))
	case few:
		return number(kind, int64(r.Intn(7)-3))
	case kind == api.Int:
		return number(kind, int64(int32(r.Uint32())))
	}
	return number(kind, int64(r.Uint64()))
}

// anyColumn with a leaf that it is of.
func anyColumn(r *rand.Rand, kind, many int) (schema.Leaf, api.Column) {
	leaf := schema.Leaf{ID: r.Intn(9), Kind: kind, MaxRep: r.Intn(4), MaxDef: r.Intn(4)}
	if r.Intn(10) == 0 {
		leaf.MaxRep, leaf.MaxDef = r.Intn(api.MaxNodes+1), r.Intn(api.MaxNodes+1)
	}
	c := api.Column{ID: leaf.ID}
	noValues := r.Intn(6) == 0 && leaf.MaxDef > 0
	same := r.Intn(3) == 0 // levels that make runs
	for i := range many {
		rep, def := r.Intn(leaf.MaxRep+1), r.Intn(leaf.MaxDef+1)
		switch {
		case i == 0:
			rep = 0
		case same && r.Intn(12) > 0:
			rep, def = c.Rep[i-1], c.Def[i-1]
		}
		if noValues {
			def = min(def, leaf.MaxDef-1)
		}
		c.Rep, c.Def = append(c.Rep, rep), append(c.Def, def)
		if def == leaf.MaxDef {
			c.Values = append(c.Values, anyValue(r, kind))
		}
	}
	return leaf, c
}

func manyOf(r *rand.Rand) int { return 1 + r.Intn([]int{1, 3, 12, 70}[r.Intn(4)]) }

// knownPages: bodies, and what they are of.
func knownPages() []struct {
	leaf schema.Leaf
	c    api.Column
	body string
} {
	return []struct {
		leaf schema.Leaf
		c    api.Column
		body string
	}{
		// Both levels, by Delta.
		{
			schema.Leaf{ID: 3, Kind: api.Int, MaxRep: 1, MaxDef: 2},
			api.Column{ID: 3, Rep: []int{0, 1, 0}, Def: []int{2, 2, 0}, Values: []api.Value{whole(5), whole(6)}},
			"\x03\x01\x01\x02\x04\x05\x00\x00\x00\x04\x06\x00\x00\x00" + "\x02\x03\x02" + "\x03\x03\x0a\x00" + "\x02" + "\x03\x0a\x02\x00",
		},
		// No levels: numbers of no bits; by Plain.
		{
			schema.Leaf{ID: 1, Kind: api.Bool},
			api.Column{ID: 1, Rep: []int{0, 0}, Def: []int{0, 0}, Values: []api.Value{number(api.Bool, 1), number(api.Bool, 0)}},
			"\x02\x00\x01\x01\x01\x00\x01\x01" + "\x01\x03" + "\x01\x03" + "\x00" + "\x01\x01",
		},
		// No values at all: Plain is the first of those that are as short.
		{
			schema.Leaf{ID: 7, Kind: api.Double, MaxRep: 0, MaxDef: 1},
			api.Column{ID: 7, Rep: make([]int, 8), Def: make([]int, 8)},
			"\x08\x08\x00" + "\x01\x10" + "\x02\x10\x00" + "\x00" + "\x00",
		},
		// By Dict.
		{
			schema.Leaf{ID: -9, Kind: api.Double},
			api.Column{ID: -9, Rep: []int{0, 0}, Def: []int{0, 0}, Values: []api.Value{number(api.Double, -1), number(api.Double, -1)}},
			"\x02\x00\x01\x05\x08\xff\xff\xff\xff\xff\xff\xff\xff\x08\xff\xff\xff\xff\xff\xff\xff\xff" + "\x01\x03" + "\x01\x03" + "\x01" + "\x0b\x01\x08\xff\xff\xff\xff\xff\xff\xff\xff\x03",
		},
		// By Prefix.
		{
			schema.Leaf{ID: 1000, Kind: api.Bytes, MaxRep: 40, MaxDef: 40},
			api.Column{ID: 1000, Rep: []int{0, 40}, Def: []int{40, 40}, Values: []api.Value{text("abcd"), text("abce")}},
			"\x02\x00\x01\x04\x05\x04abcd\x05\x04abce" + "\x07\x03\x00\x0a\x00\x00\x00\x00" + "\x07\x03\x28\x0a\x00\x00\x00\x00" + "\x03" + "\x09\x00\x04abcd\x03\x01e",
		},
	}
}

func TestP100Known(t *testing.T) {
	for i, k := range knownPages() {
		want := sealed(k.body)
		if got, err := page.Write(k.leaf, k.c); got != want || err != nil {
			t.Errorf("%d: %q, %v, not %q", i, got, err, want)
		}
		mustRead(t, k.leaf, want, k.c)
		known, err := stats.Of(k.leaf, k.c)
		if err != nil {
			t.Fatal(err)
		}
		mustPeek(t, k.leaf, want, known)
	}
	// All of one page, sum and length as well.
	if got := mustWrite(t, knownPages()[1].leaf, knownPages()[1].c); got != "P\x0f\x12\x12\x13\x42\x02\x00\x01\x01\x01\x00\x01\x01\x01\x03\x01\x03\x00\x01\x01" {
		t.Errorf("%q", got)
	}
}

// bodyByTheRule: as P100 says, by the packages below.
func bodyByTheRule(t *testing.T, leaf schema.Leaf, c api.Column) string {
	t.Helper()
	known, err := stats.Of(leaf, c)
	if err != nil {
		t.Fatal(err)
	}
	code, values, err := enc.Best(leaf.Kind, c.Values)
	if err != nil {
		t.Fatal(err)
	}
	return stats.Text(known) + levelsText(t, c.Rep, leaf.MaxRep) + levelsText(t, c.Def, leaf.MaxDef) + string([]byte{byte(code)}) + wire.Text(values)
}

func levelsText(t *testing.T, levels []int, most int) string {
	t.Helper()
	s, err := bitrun.Runs(levels, bitrun.Width(most))
	if err != nil {
		t.Fatal(err)
	}
	return wire.Text(s)
}

func TestP100ByTheRule(t *testing.T) {
	r := rand.New(rand.NewSource(100))
	for range 4000 {
		leaf, c := anyColumn(r, kinds[r.Intn(len(kinds))], manyOf(r))
		if got, want := mustWrite(t, leaf, c), sealed(bodyByTheRule(t, leaf, c)); got != want {
			t.Fatalf("%+v of %+v: %q, not %q", c, leaf, got, want)
		}
	}
}

// wrongShapes: a leaf that is none, or a leaf and a column that are not each other's.
func wrongShapes() map[string]func(*schema.Leaf, *api.Column) {
	return map[string]func(*schema.Leaf, *api.Column){
		"kind 0":          func(leaf *schema.Leaf, c *api.Column) { leaf.Kind = api.Group },
		"kind 6":          func(leaf *schema.Leaf, c *api.Column) { leaf.Kind = 6 },
		"kind -1":         func(leaf *schema.Leaf, c *api.Column) { leaf.Kind = -1 },
		"MaxRep -1":       func(leaf *schema.Leaf, c *api.Column) { leaf.MaxRep = -1 },
		"MaxRep 41":       func(leaf *schema.Leaf, c *api.Column) { leaf.MaxRep = 41 },
		"MaxRep most":     func(leaf *schema.Leaf, c *api.Column) { leaf.MaxRep = math.MaxInt },
		"MaxDef -1":       func(leaf *schema.Leaf, c *api.Column) { leaf.MaxDef = -1 },
		"MaxDef 41":       func(leaf *schema.Leaf, c *api.Column) { leaf.MaxDef = 41 },
		"MaxDef least":    func(leaf *schema.Leaf, c *api.Column) { leaf.MaxDef = math.MinInt },
		"another ID":      func(leaf *schema.Leaf, c *api.Column) { c.ID = 5 },
		"a Rep more":      func(leaf *schema.Leaf, c *api.Column) { c.Rep = append(c.Rep, 0) },
		"a Def more":      func(leaf *schema.Leaf, c *api.Column) { c.Def = append(c.Def, 0) },
		"no Rep":          func(leaf *schema.Leaf, c *api.Column) { c.Rep = nil },
		"no Def":          func(leaf *schema.Leaf, c *api.Column) { c.Def, c.Values = nil, nil },
		"Rep 3":           func(leaf *schema.Leaf, c *api.Column) { c.Rep[3] = 3 },
		"Rep -1":          func(leaf *schema.Leaf, c *api.Column) { c.Rep[1] = -1 },
		"Def 3":           func(leaf *schema.Leaf, c *api.Column) { c.Def[3] = 3 },
		"Def -1":          func(leaf *schema.Leaf, c *api.Column) { c.Def[3] = -1 },
		"first Rep 1":     func(leaf *schema.Leaf, c *api.Column) { c.Rep[0] = 1 },
		"first Rep 2":     func(leaf *schema.Leaf, c *api.Column) { c.Rep[0] = 2 },
		"a value more":    func(leaf *schema.Leaf, c *api.Column) { c.Values = append(c.Values, whole(6)) },
		"a value less":    func(leaf *schema.Leaf, c *api.Column) { c.Values = c.Values[:1] },
		"no entries":      func(leaf *schema.Leaf, c *api.Column) { *c = api.Column{ID: 4} },
		"nothing":         func(leaf *schema.Leaf, c *api.Column) { *c = api.Column{} },
		"values alone":    func(leaf *schema.Leaf, c *api.Column) { c.Rep, c.Def = nil, nil },
		"another MaxRep":  func(leaf *schema.Leaf, c *api.Column) { leaf.MaxRep = 1 },
		"another MaxDef":  func(leaf *schema.Leaf, c *api.Column) { leaf.MaxDef = 3 },
		"empty, no entry": func(leaf *schema.Leaf, c *api.Column) { *c = api.Column{ID: 4, Rep: []int{}, Def: []int{}} },
	}
}

func TestP100WrongShape(t *testing.T) {
	for name, spoil := range wrongShapes() {
		leaf, c := someLeaf(), someColumn()
		spoil(&leaf, &c)
		if s, err := page.Write(leaf, c); s != "" || err != api.ErrShape {
			t.Errorf("%s: %q, %v", name, s, err)
		}
	}
}

func TestP100WrongValue(t *testing.T) {
	for i, v := range []api.Value{{}, number(api.Long, 1), number(api.Bool, 1), text(""), whole(math.MaxInt32 + 1), whole(math.MinInt32 - 1), {Kind: api.Int, S: "x"}, number(6, 0), number(-1, 0)} {
		for at := range 2 {
			c := someColumn()
			c.Values[at] = v
			c.Values[1] = v
			s, err := page.Write(someLeaf(), c)
			var fault *api.Fault
			if s != "" || !errors.As(err, &fault) || fault.At != at || fault.Err != api.ErrKind {
				t.Errorf("%d at %d: %q, %v", i, at, s, err)
			}
		}
	}
}

// longColumn of so many entries, each with a value.
func longColumn(many int, value func(i int) api.Value) api.Column {
	c := api.Column{ID: 1, Rep: make([]int, many), Def: make([]int, many)}
	for i := range many {
		c.Values = append(c.Values, value(i))
	}
	return c
}

func TestP100HowMany(t *testing.T) {
	leaf := schema.Leaf{ID: 1, Kind: api.Int}
	most := longColumn(api.MaxEntries, func(i int) api.Value { return whole(int64(i)) })
	mustRead(t, leaf, mustWrite(t, leaf, most), most)
	over := longColumn(api.MaxEntries+1, func(i int) api.Value { return whole(int64(i)) })
	if s, err := page.Write(leaf, over); s != "" || err != api.ErrShape {
		t.Errorf("%d bytes, %v", len(s), err)
	}
	// What is wrong with a value is told ahead of how many there are.
	over.Values[7] = number(api.Long, 7)
	var fault *api.Fault
	if s, err := page.Write(leaf, over); s != "" || !errors.As(err, &fault) || fault.At != 7 || fault.Err != api.ErrKind {
		t.Errorf("%d bytes, %v", len(s), err)
	}
	// Also of entries without values.
	leaf.MaxDef = 1
	if s, err := page.Write(leaf, api.Column{ID: 1, Rep: make([]int, 20001), Def: make([]int, 20001)}); s != "" || err != api.ErrShape {
		t.Errorf("%d bytes, %v", len(s), err)
	}
	none := api.Column{ID: 1, Rep: make([]int, 20000), Def: make([]int, 20000)}
	mustRead(t, leaf, mustWrite(t, leaf, none), none)
}

// TestP103LongerThanMaxData: how much is written is bounded by the entries alone, and
// what is written is read.
func TestP103LongerThanMaxData(t *testing.T) {
	leaf := schema.Leaf{ID: 1, Kind: api.Bytes}
	r := rand.New(rand.NewSource(103))
	c := longColumn(api.MaxEntries, func(int) api.Value {
		b := make([]byte, api.MaxBytes)
		r.Read(b)
		return text(string(b))
	})
	s := mustWrite(t, leaf, c)
	if len(s) < 10*api.MaxData {
		t.Error(len(s))
	}
	if got, used, err := page.Read(leaf, s); told(got) != told(c) || used != len(s) || err != nil {
		t.Error(len(got.Rep), used, err)
	}
	known, err := stats.Of(leaf, c)
	if err != nil {
		t.Fatal(err)
	}
	mustPeek(t, leaf, s, known)
}

func TestP103WhatIsWrittenIsRead(t *testing.T) {
	r := rand.New(rand.NewSource(1030))
	for range 4000 {
		leaf, c := anyColumn(r, kinds[r.Intn(len(kinds))], manyOf(r))
		s := mustWrite(t, leaf, c)
		mustRead(t, leaf, s, c)
		known, err := stats.Of(leaf, c)
		if err != nil {
			t.Fatal(err)
		}
		mustPeek(t, leaf, s, known)
	}
}

// TestP103OneBitTurned: an error, or another length and a page there.
func TestP103OneBitTurned(t *testing.T) {
	r := rand.New(rand.NewSource(1031))
	for range 300 {
		leaf, c := anyColumn(r, kinds[r.Intn(len(kinds))], manyOf(r))
		s := mustWrite(t, leaf, c)
		behind := []string{"", "rest", s, strings.Repeat("\x00", 300)}[r.Intn(4)]
		head := len(s) - len(unsealed(t, s))
		for bit := range 8 * len(s) {
			b := []byte(s + behind)
			b[bit/8] ^= 1 << (bit % 8)
			got, used, err := page.Read(leaf, string(b))
			known, peeked, err2 := page.Peek(leaf, string(b))
			inLength := bit/8 > 0 && bit/8 < head-4
			switch {
			case inLength && (err == nil && used == len(s) || err2 == nil && peeked == len(s)):
				t.Fatalf("%q, bit %d: %+v, %+v", s, bit, got, known)
			case inLength:
			case bit/8 == 0 && (err != api.ErrText || err2 != api.ErrText):
				t.Fatalf("%q, bit %d: %v, %v", s, bit, err, err2)
			case bit/8 > 0 && (err != api.ErrSum || err2 != api.ErrSum):
				t.Fatalf("%q, bit %d: %v, %v", s, bit, err, err2)
			}
			if err != nil && (told(got) != nothing || used != 0) || err2 != nil && (known != stats.Stats{} || peeked != 0) {
				t.Fatalf("%q, bit %d: %+v, %d, %+v, %d", s, bit, got, used, known, peeked)
			}
		}
	}
}

func TestP4ColumnsAreOnlyRead(t *testing.T) {
	r := rand.New(rand.NewSource(4))
	for range 500 {
		leaf, c := anyColumn(r, kinds[r.Intn(len(kinds))], manyOf(r))
		c.Rep = append(slices.Clone(c.Rep), 77)[:len(c.Rep)]
		c.Def = append(slices.Clone(c.Def), 77)[:len(c.Def)]
		c.Values = append(slices.Clone(c.Values), whole(77))[:len(c.Values)]
		all := func() string {
			return fmt.Sprint(leaf, c, c.Rep[:len(c.Rep)+1], c.Def[:len(c.Def)+1], c.Values[:len(c.Values)+1])
		}
		before := all()
		if s, again := mustWrite(t, leaf, c), mustWrite(t, leaf, c); s != again || all() != before {
			t.Fatalf("%q, %q: %s, ahead %s", s, again, all(), before)
		}
	}
}

// TestP4AnswersAreNew: what is written into an answer shows nowhere else.
func TestP4AnswersAreNew(t *testing.T) {
	r := rand.New(rand.NewSource(40))
	for range 500 {
		leaf, c := anyColumn(r, kinds[r.Intn(len(kinds))], manyOf(r))
		s := mustWrite(t, leaf, c)
		first, _, err := page.Read(leaf, s)
		if err != nil {
			t.Fatal(err)
		}
		for i := range first.Rep {
			first.Rep[i] = 77
		}
		if !slices.Equal(first.Def, c.Def) || !slices.Equal(first.Values, c.Values) {
			t.Fatalf("%+v", first)
		}
		for i := range first.Def {
			first.Def[i] = 78
		}
		clear(first.Values)
		_ = append(append(first.Rep, 1), 2)
		if slices.ContainsFunc(first.Def, func(n int) bool { return n != 78 }) {
			t.Fatalf("%+v", first)
		}
		mustRead(t, leaf, s, c)
	}
}

// TestP101WhatIsReadIsAPart: pages that begin with a record can be cut and joined.
func TestP101WhatIsReadIsAPart(t *testing.T) {
	r := rand.New(rand.NewSource(62))
	for range 500 {
		leaf, c := anyColumn(r, kinds[r.Intn(len(kinds))], manyOf(r))
		got, _, err := page.Read(leaf, mustWrite(t, leaf, c))
		if err != nil {
			t.Fatal(err)
		}
		if part, err := shred.Part(leaf, got, 0, shred.Count(got)); told(part) != told(c) || err != nil {
			t.Fatalf("%+v, %v, not %+v", part, err, c)
		}
	}
}
