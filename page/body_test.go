package page_test

import (
	"math"
	"math/rand"
	"slices"
	"strings"
	"testing"

	"shredcol/api"
	"shredcol/bitrun"
	"shredcol/enc"
	"shredcol/page"
	"shredcol/schema"
	"shredcol/stats"
	"shredcol/wire"
)

// wrongLeaves: those that are none.
func wrongLeaves() []schema.Leaf {
	var l []schema.Leaf
	for _, spoil := range []func(*schema.Leaf){
		func(leaf *schema.Leaf) { leaf.Kind = api.Group }, func(leaf *schema.Leaf) { leaf.Kind = 6 }, func(leaf *schema.Leaf) { leaf.Kind = -1 },
		func(leaf *schema.Leaf) { leaf.MaxRep = -1 }, func(leaf *schema.Leaf) { leaf.MaxRep = 41 }, func(leaf *schema.Leaf) { leaf.MaxRep = math.MaxInt },
		func(leaf *schema.Leaf) { leaf.MaxDef = -1 }, func(leaf *schema.Leaf) { leaf.MaxDef = 41 }, func(leaf *schema.Leaf) { leaf.MaxDef = math.MinInt },
	} {
		leaf := someLeaf()
		spoil(&leaf)
		l = append(l, leaf)
	}
	return append(l, schema.Leaf{})
}

// TestP101WrongLeaf is told ahead of whatever is wrong with the text.
func TestP101WrongLeaf(t *testing.T) {
	right := mustWrite(t, someLeaf(), someColumn())
	for _, leaf := range wrongLeaves() {
		for _, s := range []string{right, "", "x", right[:9], right[:len(right)-1] + "\x77", sealed("")} {
			mustFail(t, leaf, s, api.ErrShape)
			mustNotPeek(t, leaf, s, api.ErrShape)
		}
	}
	// Path is not asked; the ID is the leaf's, as a page tells none.
	for _, id := range []int{0, -1, math.MinInt, math.MaxInt} {
		want := someColumn()
		want.ID = id
		mustRead(t, schema.Leaf{ID: id, Kind: api.Int, MaxRep: 2, MaxDef: 2}, right, want)
	}
}

func TestP101NoPage(t *testing.T) {
	leaf := someLeaf()
	right := mustWrite(t, leaf, someColumn())
	body := unsealed(t, right)
	sum := right[len(right)-len(body)-4 : len(right)-len(body)]
	wrong := []string{
		"", "P", "PP", "\x00", "p" + right[1:], "Q" + right[1:], "\xd0" + right[1:], "\x00" + right[1:], " " + right, right[1:],
		// Lengths that are none, or lead out.
		"P\x80", "P\x80\x00" + sum + body, "P" + string([]byte{byte(len(body)) | 0x80}) + "\x00" + sum + body,
		"P" + strings.Repeat("\xff", 10) + "\x01" + sum + body, "P" + strings.Repeat("\xff", 9) + "\x02" + sum + body,
		"P" + strings.Repeat("\xff", 9) + "\x01" + sum + body, "P" + strings.Repeat("\xff", 8) + "\x7f" + sum + body,
		"P" + wire.Uvarint(uint64(len(body)+1)) + sum + body, "P" + wire.Uvarint(1<<32+uint64(len(body))) + sum + body,
		"P" + wire.Uvarint(1<<63+uint64(len(body))) + sum + body,
		// No room for the sum.
		"P\x00", "P\x00\x00\x00\x00",
	}
	for end := range len(right) {
		wrong = append(wrong, right[:end])
	}
	// It is told that it ends too early even if the sum cannot be right.
	spoilt := []byte(right)
	spoilt[3] ^= 1
	wrong = append(wrong, string(spoilt[:len(spoilt)-1]))
	for _, s := range wrong {
		mustFail(t, leaf, s, api.ErrText)
		mustNotPeek(t, leaf, s, api.ErrText)
	}
}

// TestP101WrongSum is told ahead of a body that is none.
func TestP101WrongSum(t *testing.T) {
	leaf := someLeaf()
	right := unsealed(t, mustWrite(t, leaf, someColumn()))
	for _, body := range []string{right, "", "x", right + "x", right[:len(right)-1], strings.Repeat("z", 300)} {
		s := sealed(body)
		head := len(s) - len(body)
		for bit := range 32 {
			b := []byte(s)
			b[head-4+bit/8] ^= 1 << (bit % 8)
			mustFail(t, leaf, string(b), api.ErrSum)
			mustNotPeek(t, leaf, string(b), api.ErrSum)
		}
		if len(body) > 1 {
			shorter := "P" + wire.Uvarint(uint64(len(body)-1)) + s[head-4:]
			mustFail(t, leaf, shorter, api.ErrSum)
			mustNotPeek(t, leaf, shorter, api.ErrSum)
		}
	}
}

// parts of a body, each of which a test may change.
type parts struct {
	known          stats.Stats
	rep, def, vals string
	code           byte
	behind         string
}

func (p parts) body() string {
	return stats.Text(p.known) + wire.Text(p.rep) + wire.Text(p.def) + string([]byte{p.code}) + wire.Text(p.vals) + p.behind
}

// someParts: of someColumn, all by Plain and packed.
func someParts() parts {
	return parts{
		known: stats.Stats{Entries: 4, Nulls: 2, Has: true, Min: whole(-6), Max: whole(5)},
		rep:   "\x03\x08\x00", def: "\x03\x1a\x00", code: 0, vals: "\x05\x00\x00\x00\xfa\xff\xff\xff",
	}
}

// wrongBehind: bodies that are wrong behind their stats, or whose stats are those of
// another page: Peek takes them.
func wrongBehind() map[string]func(*parts) {
	return map[string]func(*parts){
		"fewer Nulls":          func(p *parts) { p.known.Nulls = 1 },
		"more Nulls":           func(p *parts) { p.known.Nulls = 3 },
		"all Nulls":            func(p *parts) { p.known = stats.Stats{Entries: 4, Nulls: 4} },
		"more entries":         func(p *parts) { p.known.Entries, p.known.Nulls = 9, 7 },
		"more entries alone":   func(p *parts) { p.known.Entries = 5 },
		"fewer entries":        func(p *parts) { p.known.Entries, p.known.Nulls = 2, 0 },
		"most entries":         func(p *parts) { p.known.Entries = api.MaxEntries },
		"a lower Min":          func(p *parts) { p.known.Min = whole(-7) },
		"a greater Min":        func(p *parts) { p.known.Min = whole(-5) },
		"a lower Max":          func(p *parts) { p.known.Max = whole(4) },
		"a greater Max":        func(p *parts) { p.known.Max = whole(6) },
		"Max as Min":           func(p *parts) { p.known.Max = whole(-6) },
		"no Rep":               func(p *parts) { p.rep = "" },
		"Rep too short":        func(p *parts) { p.rep = "\x03\x08" },
		"Rep with more":        func(p *parts) { p.rep = "\x03\x08\x00\x00" },
		"Rep with a part more": func(p *parts) { p.rep = "\x03\x08\x00\x02\x00" },
		"Rep above MaxRep":     func(p *parts) { p.rep = "\x03\x0c\x00" },
		"last Rep too great":   func(p *parts) { p.rep = "\x03\xc8\x00" },
		"first Rep too great":  func(p *parts) { p.rep = "\x03\x0b\x00" },
		"all Rep too great":    func(p *parts) { p.rep = "\x08\x03" },
		"Rep with rests":       func(p *parts) { p.rep = "\x03\x08\x01" },
		"Rep too many":         func(p *parts) { p.rep = "\x0a\x00" },
		"Rep too few":          func(p *parts) { p.rep = "\x06\x00" },
		"Rep of another width": func(p *parts) { p.rep = "\x08\x04" },
		"Rep of an empty part": func(p *parts) { p.rep = "\x00\x00\x08\x00" },
		"Rep of no groups":     func(p *parts) { p.rep = "\x01\x08\x00" },
		"Rep without its end":  func(p *parts) { p.rep = "\x08" },
		"no Def":               func(p *parts) { p.def = "" },
		"Def too short":        func(p *parts) { p.def = "\x03\x1a" },
		"Def with more":        func(p *parts) { p.def = "\x03\x1a\x00\x00" },
		"Def above MaxDef":     func(p *parts) { p.def = "\x03\xda\x00" },
		"Def above, no Null":   func(p *parts) { p.def = "\x03\x1e\x00" },
		"first Def too great":  func(p *parts) { p.def = "\x03\x1b\x00" },
		"Def with rests":       func(p *parts) { p.def = "\x03\x1a\x80" },
		"another Def":          func(p *parts) { p.def = "\x03\x16\x00" },
		"a Def more":           func(p *parts) { p.def = "\x03\x2a\x00" },
		"a Null more": func(p *parts) {
			p.def = "\x03\x0a\x00"
			p.vals = p.vals[:4]
			p.known.Max = whole(5)
			p.known.Min = whole(5)
		},
		"code 1":                func(p *parts) { p.code = 1 },
		"code 2":                func(p *parts) { p.code = 2 },
		"code 3":                func(p *parts) { p.code = 3 },
		"code 3, such a text":   func(p *parts) { p.code, p.vals = 3, "\x00\x01a\x00\x01b" },
		"code 4":                func(p *parts) { p.code = 4 },
		"code 255":              func(p *parts) { p.code = 255 },
		"no values":             func(p *parts) { p.vals = "" },
		"a value less":          func(p *parts) { p.vals = p.vals[:4] },
		"a value more":          func(p *parts) { p.vals += "\x00\x00\x00\x00" },
		"values too short":      func(p *parts) { p.vals = p.vals[:7] },
		"values with more":      func(p *parts) { p.vals += "\x00" },
		"another value":         func(p *parts) { p.vals = "\x04" + p.vals[1:] },
		"delta with more":       func(p *parts) { p.code, p.vals = 2, "\x0a\x15\x00\x00" },
		"delta, another width":  func(p *parts) { p.code, p.vals = 2, "\x0a\x15\x01\x00" },
		"dict, another order":   func(p *parts) { p.code, p.vals = 1, "\x02\x08\xfa\xff\xff\xff\x05\x00\x00\x00\x03\x01" },
		"dict, one never comes": func(p *parts) { p.code, p.vals = 1, "\x02\x08\x05\x00\x00\x00\xfa\xff\xff\xff\x03\x00" },
		"a byte behind":         func(p *parts) { p.behind = "\x00" },
		"a page behind":         func(p *parts) { p.behind = sealed(someParts().body()) },
		"a body behind":         func(p *parts) { p.behind = someParts().body() },
	}
}

func TestP101WrongBodies(t *testing.T) {
	leaf := someLeaf()
	mustRead(t, leaf, sealed(someParts().body()), someColumn())
	for name, spoil := range wrongBehind() {
		p := someParts()
		spoil(&p)
		if got, used, err := page.Read(leaf, sealed(p.body())); told(got) != nothing || used != 0 || err != api.ErrText {
			t.Errorf("%s: %+v, %d, %v", name, got, used, err)
		}
	}
	// A body that ends too early, or whose lengths lead out.
	body := someParts().body()
	for end := range len(body) {
		mustFail(t, leaf, sealed(body[:end]), api.ErrText)
	}
	head := stats.Text(someParts().known)
	for _, behind := range []string{
		"\x04\x03\x08\x00", "\x83\x00\x03\x08\x00\x03\x03\x1a\x00\x00\x08\x05\x00\x00\x00\xfa\xff\xff\xff",
		"\xff\xff\xff\xff\xff\xff\xff\xff\xff\x01\x03\x08\x00", "\xff\xff\xff\xff\xff\xff\xff\xff\x7f\x03\x08\x00", "\xff\xff\xff\xff\xff\xff\xff\xff\xff\xff\x01",
		"\x03\x03\x08\x00\x03\x03\x1a\x00\x00\x09\x05\x00\x00\x00\xfa\xff\xff\xff", "\x03\x03\x08\x00\x03\x03\x1a\x00\x00\x88\x00\x05\x00\x00\x00\xfa\xff\xff\xff",
	} {
		mustFail(t, leaf, sealed(head+behind), api.ErrText)
	}
}

// wrongStats: bodies of an Int that begin with no stats, or with such as no page has.
func wrongStats() []string {
	behind := "\x02\x03\x00\x02\x03\x00\x00\x00"
	return []string{
		"", "\x01", "\x80", "\x01\x00\x00" + behind, "\x01\x02\x00" + behind, "\x01\x01\x01" + behind, "\x81\x00\x01\x00" + behind, "\xa1\x9c\x01\xa1\x9c\x01\x00" + behind,
		// No entries.
		"\x00\x00\x00", "\x00\x00\x00" + behind, "\x00\x00\x00\x00\x00\x00\x00",
		// Max below Min.
		"\x01\x00\x01\x02\x04\x06\x00\x00\x00\x04\x05\x00\x00\x00" + behind,
		// Values of another kind, or of none.
		stats.Text(stats.Stats{Entries: 1, Has: true, Min: number(api.Bool, 1), Max: number(api.Bool, 1)}) + behind,
		stats.Text(stats.Stats{Entries: 1, Has: true, Min: number(api.Long, 1), Max: number(api.Long, 1)}) + behind,
		stats.Text(stats.Stats{Entries: 1, Has: true, Min: text("a"), Max: text("a")}) + behind,
		stats.Text(stats.Stats{Entries: 1, Has: true, Min: number(api.Double, 1), Max: number(api.Double, 1)}) + behind,
		"\x01\x00\x01\x00\x04\x01\x00\x00\x00\x04\x01\x00\x00\x00" + behind, "\x01\x00\x01\x06\x04\x01\x00\x00\x00\x04\x01\x00\x00\x00" + behind,
	}
}

func TestP101WrongStats(t *testing.T) {
	for _, body := range wrongStats() {
		mustFail(t, someLeaf(), sealed(body), api.ErrText)
	}
	// Of no entries, with all else as it would be.
	mustFail(t, someLeaf(), sealed("\x00\x00\x00"+"\x00"+"\x00"+"\x00"+"\x00"), api.ErrText)
}

func TestP102WrongStats(t *testing.T) {
	for _, body := range wrongStats() {
		mustNotPeek(t, someLeaf(), sealed(body), api.ErrText)
	}
}

// TestP102BehindTheStats nothing is looked at.
func TestP102BehindTheStats(t *testing.T) {
	leaf := someLeaf()
	for _, spoil := range wrongBehind() {
		p := someParts()
		spoil(&p)
		mustPeek(t, leaf, sealed(p.body()), p.known)
	}
	head := stats.Text(someParts().known)
	for end := range len(head) {
		mustNotPeek(t, leaf, sealed(head[:end]), api.ErrText)
	}
	for _, behind := range []string{"", "\x00", "\xff\xff\xff", strings.Repeat("z", 500)} {
		mustPeek(t, leaf, sealed(head+behind), someParts().known)
		mustFail(t, leaf, sealed(head+behind), api.ErrText)
	}
	// Nor at how the stats stand to the levels of the leaf.
	for _, other := range []schema.Leaf{{Kind: api.Int}, {ID: 4, Kind: api.Int, MaxRep: 40, MaxDef: 40}} {
		mustPeek(t, other, sealed(someParts().body()), someParts().known)
	}
	// Stats without values tell no kind.
	for _, kind := range kinds {
		none := stats.Stats{Entries: 3, Nulls: 3}
		mustPeek(t, schema.Leaf{Kind: kind}, sealed(stats.Text(none)), none)
	}
}

// TestP101OtherKind: a page is read by the kind of the leaf.
func TestP101OtherKind(t *testing.T) {
	r := rand.New(rand.NewSource(101))
	for range 500 {
		leaf, c := anyColumn(r, kinds[r.Intn(len(kinds))], manyOf(r))
		if len(c.Values) == 0 {
			continue
		}
		s := mustWrite(t, leaf, c)
		for _, kind := range kinds {
			other := leaf
			other.Kind = kind
			if kind != leaf.Kind {
				mustFail(t, other, s, api.ErrText)
				mustNotPeek(t, other, s, api.ErrText)
			}
		}
	}
}

// bodyBy: a column's body, its values by one way, whether that is the best or not.
func bodyBy(t *testing.T, leaf schema.Leaf, c api.Column, code int) string {
	t.Helper()
	var s string
	var err error
	switch code {
	case 0:
		s, err = enc.Plain(leaf.Kind, c.Values)
	case 1:
		s, err = enc.Dict(leaf.Kind, c.Values)
	case 2:
		s, err = enc.Delta(leaf.Kind, c.Values)
	case 3:
		var l []string
		for _, v := range c.Values {
			l = append(l, v.S)
		}
		s, err = enc.Prefix(l)
	}
	if err != nil {
		t.Fatal(err)
	}
	return bodyByTheRule(t, leaf, c)[:codeAt(t, leaf, c)] + string([]byte{byte(code)}) + wire.Text(s)
}

func codesOf(kind int) []int {
	switch kind {
	case api.Int, api.Long:
		return []int{0, 1, 2}
	case api.Bytes:
		return []int{0, 1, 3}
	}
	return []int{0, 1}
}

func TestP101WhateverCode(t *testing.T) {
	r := rand.New(rand.NewSource(1010))
	for range 1000 {
		leaf, c := anyColumn(r, kinds[r.Intn(len(kinds))], manyOf(r))
		for _, code := range codesOf(leaf.Kind) {
			body := bodyBy(t, leaf, c, code)
			mustRead(t, leaf, sealed(body), c)
			// The same bytes by a code that the kind has not.
			at := codeAt(t, leaf, c)
			for _, wrong := range []int{2, 3, 4, 5, 128 + code, 255} {
				if !slices.Contains(codesOf(leaf.Kind), wrong) {
					mustFail(t, leaf, sealed(body[:at]+string([]byte{byte(wrong)})+body[at+1:]), api.ErrText)
				}
			}
		}
	}
}

// codeAt: where in a column's body the code stands.
func codeAt(t *testing.T, leaf schema.Leaf, c api.Column) int {
	t.Helper()
	known, err := stats.Of(leaf, c)
	if err != nil {
		t.Fatal(err)
	}
	return len(stats.Text(known) + levelsText(t, c.Rep, leaf.MaxRep) + levelsText(t, c.Def, leaf.MaxDef))
}

// TestP101OtherRuns: levels may be written by whatever parts (P22).
func TestP101OtherRuns(t *testing.T) {
	leaf := someLeaf()
	for _, spoil := range []func(*parts){
		func(p *parts) { p.rep = "\x02\x00\x02\x02\x04\x00" },
		func(p *parts) { p.rep = "\x02\x00\x02\x02\x02\x00\x02\x00" },
		func(p *parts) { p.rep = "\x02\x00\x03\x02\x00" },
		func(p *parts) { p.def = "\x04\x02\x02\x01\x02\x00" },
		func(p *parts) { p.def = "\x04\x02\x03\x01\x00" },
		func(p *parts) { p.def = "\x02\x02\x03\x06\x00" },
	} {
		p := someParts()
		spoil(&p)
		mustRead(t, leaf, sealed(p.body()), someColumn())
		mustPeek(t, leaf, sealed(p.body()), p.known)
	}
}

// TestP101FirstRep may be any level: such a page goes on with a record.
func TestP101FirstRep(t *testing.T) {
	leaf := someLeaf()
	for first := range 4 {
		p := someParts()
		p.rep = string([]byte{3, byte(8 + first), 0})
		if first > leaf.MaxRep {
			mustFail(t, leaf, sealed(p.body()), api.ErrText)
			continue
		}
		want := someColumn()
		want.Rep[0] = first
		mustRead(t, leaf, sealed(p.body()), want)
		mustPeek(t, leaf, sealed(p.body()), p.known)
		if _, err := page.Write(leaf, want); (err == nil) != (first == 0) {
			t.Errorf("%d: %v", first, err)
		}
	}
}

// readByTheRule: what a body is of, as P101 says, rule by rule.
func readByTheRule(leaf schema.Leaf, body string) (c api.Column, ok bool) {
	known, used, err := stats.Read(body)
	if err != nil || known.Entries < 1 {
		return api.Column{}, false
	}
	body = body[used:]
	c.ID = leaf.ID
	for _, side := range []struct {
		levels *[]int
		most   int
	}{{&c.Rep, leaf.MaxRep}, {&c.Def, leaf.MaxDef}} {
		runs, used, err := wire.ReadText(body)
		if err != nil {
			return api.Column{}, false
		}
		l, all, err := bitrun.ReadRuns(runs, bitrun.Width(side.most), known.Entries)
		if err != nil || all != len(runs) || slices.Min(l) < 0 || slices.Max(l) > side.most {
			return api.Column{}, false
		}
		*side.levels = l
		body = body[used:]
	}
	values := 0
	for _, def := range c.Def {
		if def == leaf.MaxDef {
			values++
		}
	}
	if body == "" || !slices.Contains(codesOf(leaf.Kind), int(body[0])) {
		return api.Column{}, false
	}
	s, used, err := wire.ReadText(body[1:])
	if err != nil || used != len(body)-1 {
		return api.Column{}, false
	}
	c.Values, err = enc.ReadBest(leaf.Kind, int(body[0]), s, values)
	if err != nil {
		return api.Column{}, false
	}
	want := stats.Stats{Entries: len(c.Rep), Nulls: len(c.Rep) - values, Has: values > 0}
	if want.Has {
		sorted := slices.Clone(c.Values)
		slices.SortStableFunc(sorted, func(a, b api.Value) int {
			switch {
			case enc.Less(a, b):
				return -1
			case enc.Less(b, a):
				return 1
			}
			return 0
		})
		want.Min, want.Max = sorted[0], sorted[values-1]
	}
	if known != want {
		return api.Column{}, false
	}
	return c, true
}

// spoil: a text with a few bytes changed, put in or taken out.
func spoil(r *rand.Rand, s string) string {
	b := []byte(s)
	for range r.Intn(3) {
		at := r.Intn(len(b) + 1)
		switch {
		case r.Intn(4) == 0 || at == len(b):
			b = slices.Insert(b, at, byte(r.Intn(256))>>r.Intn(8))
		case r.Intn(3) == 0:
			b = slices.Delete(b, at, at+1)
		default:
			b[at] ^= byte(r.Intn(256)) >> r.Intn(8)
		}
	}
	return string(b)
}

// TestP101AgainstAnotherReader: bodies that are spoilt, with their sums made right.
func TestP101AgainstAnotherReader(t *testing.T) {
	r := rand.New(rand.NewSource(1011))
	read, not := 0, 0
	for range 60000 {
		leaf, c := anyColumn(r, kinds[r.Intn(len(kinds))], 1+r.Intn(6))
		codes := codesOf(leaf.Kind)
		body := spoil(r, bodyBy(t, leaf, c, codes[r.Intn(len(codes))]))
		s := sealed(body)
		want, ok := readByTheRule(leaf, body)
		got, used, err := page.Read(leaf, s)
		known, peeked, err2 := page.Peek(leaf, s)
		if !ok {
			not++
			if told(got) != nothing || used != 0 || err != api.ErrText {
				t.Fatalf("%q of %+v: %+v, %d, %v", body, leaf, got, used, err)
			}
			if err2 != nil && (err2 != api.ErrText || peeked != 0 || known != stats.Stats{}) {
				t.Fatalf("%q of %+v: %+v, %d, %v", body, leaf, known, peeked, err2)
			}
			continue
		}
		if body != bodyByTheRule(t, leaf, c) {
			read++
		}
		if told(got) != told(want) || used != len(s) || err != nil {
			t.Fatalf("%q of %+v: %+v, %d, %v, not %+v", body, leaf, got, used, err, want)
		}
		if stats.Text(known) != body[:len(stats.Text(known))] || peeked != len(s) || err2 != nil {
			t.Fatalf("%q of %+v: %+v, %d, %v", body, leaf, known, peeked, err2)
		}
	}
	if read < 5000 || not < 5000 {
		t.Errorf("%d bodies that Write has not were read, %d were not", read, not)
	}
}

// TestP1WhateverIsGiven: no leaf, column or text makes a call panic.
func TestP1WhateverIsGiven(t *testing.T) {
	r := rand.New(rand.NewSource(1))
	anyNumber := func() int {
		return []int{0, 1, -1, 2, 3, 40, 41, 5, math.MaxInt, math.MinInt}[r.Intn(10)]
	}
	for range 60000 {
		leaf, c := anyColumn(r, kinds[r.Intn(len(kinds))], 1+r.Intn(6))
		s := mustWrite(t, leaf, c)
		head := len(s) - len(unsealed(t, s))
		switch r.Intn(3) {
		case 0:
			s = spoil(r, s)
		case 1:
			s = sealed(spoil(r, s[head:]))
		case 2:
			b := make([]byte, r.Intn(40))
			r.Read(b)
			s = sealed(string(b))
		}
		switch r.Intn(4) {
		case 0:
			leaf = schema.Leaf{ID: anyNumber(), Kind: anyNumber(), MaxRep: anyNumber(), MaxDef: anyNumber()}
		case 1:
			c.Rep[0], c.Def[len(c.Def)-1] = anyNumber(), anyNumber()
		case 2:
			c.Values = append(c.Values, api.Value{Kind: anyNumber(), N: int64(anyNumber())})
		case 3:
			c.Rep = c.Rep[1:]
		}
		if got, used, err := page.Read(leaf, s); err != nil && (told(got) != nothing || used != 0) {
			t.Fatalf("%q of %+v: %+v, %d, %v", s, leaf, got, used, err)
		}
		if got, used, err := page.Peek(leaf, s); err != nil && (got != stats.Stats{} || used != 0) {
			t.Fatalf("%q of %+v: %+v, %d, %v", s, leaf, got, used, err)
		}
		if got, err := page.Write(leaf, c); err != nil && got != "" {
			t.Fatalf("%+v of %+v: %q, %v", c, leaf, got, err)
		}
	}
}
