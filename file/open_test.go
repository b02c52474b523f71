package file_test

import (
	"encoding/binary"
	"fmt"
	"math"
	"math/rand"
	"strings"
	"testing"

	"shredcol/api"
	"shredcol/file"
	"shredcol/schema"
	"shredcol/wire"
)

// toldFooter: a nil list and an empty one are one thing.
func toldFooter(f file.Footer) string { return fmt.Sprintf("%+v", f) }

var noFooter = toldFooter(file.Footer{})

func mustOpen(t *testing.T, s string) file.Footer {
	t.Helper()
	f, err := file.Open(s)
	if err != nil {
		t.Fatalf("%s: %v", brief(s), err)
	}
	return f
}

func mustNotOpen(t *testing.T, s string, want error) {
	t.Helper()
	if f, err := file.Open(s); toldFooter(f) != noFooter || err != want {
		t.Errorf("Open of %s: %s, %v, not %v", brief(s), brief(f), err, want)
	}
	if m, x, err := file.Read(s); told(m, x) != nothing || err != want {
		t.Errorf("Read of %s: %s, %v, not %v", brief(s), brief(told(m, x)), err, want)
	}
	if p, err := file.Pass(s, 3, ""); p != "" || err != want {
		t.Errorf("Pass of %s: %s, %v, not %v", brief(s), brief(p), err, want)
	}
}

func TestP122Known(t *testing.T) {
	root, l := small()
	f := mustOpen(t, mustWrite(t, root, l, 2, 2))
	want := file.Footer{Root: root, Len: 54, Groups: []file.Part{
		{Records: 2, Chunks: []file.Spot{{At: 4, Len: 29}, {At: 33, Len: 45}}},
		{Records: 1, Chunks: []file.Spot{{At: 78, Len: 27}, {At: 105, Len: 26}}},
	}}
	if toldFooter(f) != toldFooter(want) {
		t.Errorf("%+v, not %+v", f, want)
	}
	f = mustOpen(t, mustWrite(t, root, nil, 2, 2))
	if want := (file.Footer{Root: root, Len: 44}); toldFooter(f) != toldFooter(want) {
		t.Errorf("%+v, not %+v", f, want)
	}
}

// TestP122OnlyTheFooter: chunks are not looked into, and may be empty.
func TestP122OnlyTheFooter(t *testing.T) {
	for _, c := range []struct {
		groups []group
		want   string
	}{
		{[]group{{1, []string{"?", "!!"}}}, "[{Records:1 Chunks:[{At:4 Len:1} {At:5 Len:2}]}]"},
		{[]group{{5, []string{"", ""}}, {200000, []string{"", "x"}}}, "[{Records:5 Chunks:[{At:4 Len:0} {At:4 Len:0}]} {Records:200000 Chunks:[{At:4 Len:0} {At:4 Len:1}]}]"},
	} {
		f := mustOpen(t, fileOf("required int a #1; required int b #2;", c.groups...))
		if got := fmt.Sprintf("%+v", f.Groups); got != c.want {
			t.Errorf("%s, not %s", got, c.want)
		}
	}
}

func TestP122Bound(t *testing.T) {
	root, _ := small()
	head := len(sealed("", entryOf(1, textOf(root))+entryOf(2, "")))
	pad := func(size int) string {
		text := strings.Repeat("x", size-head-4)
		return sealed("", entryOf(3, text)+entryOf(1, textOf(root))+entryOf(2, ""))
	}
	if s := pad(api.MaxData); len(s) != api.MaxData {
		t.Fatal(len(s))
	} else {
		mustRead(t, s, root, nil)
	}
	mustNotOpen(t, pad(api.MaxData+1), api.ErrBound)
	// Ahead of all else.
	for _, s := range []string{strings.Repeat("x", api.MaxData+1), strings.Repeat("SHC1", api.MaxData), pad(api.MaxData)[1:] + "??", pad(api.MaxData) + "SHC1"} {
		mustNotOpen(t, s, api.ErrBound)
	}
	mustNotOpen(t, strings.Repeat("x", api.MaxData), api.ErrText)
	mustNotOpen(t, strings.Repeat("SHC1", api.MaxData/4), api.ErrText)
}

func TestP122TooShort(t *testing.T) {
	for _, s := range []string{"", "S", "SHC1", "SHC1SHC1", "SHC1SHC", "SHC1\x00SHC1", "SHC1\x00\x00\x00\x00\x00\x00\x00SHC1", "SHC1SHC1SHC1", "SHC1SHC1SHC1SHC1"} {
		mustNotOpen(t, s, api.ErrText)
	}
	root, l := small()
	s := mustWrite(t, root, l, 2, 2)
	for end := range len(s) {
		mustNotOpen(t, s[:end], api.ErrText)
		if end > 0 {
			mustNotOpen(t, s[end:], api.ErrText)
		}
	}
	mustNotOpen(t, s+"x", api.ErrText)
	mustNotOpen(t, "x"+s, api.ErrText)
	mustNotOpen(t, s+"SHC1", api.ErrText)
}

// TestP122Signs at both ends, and nothing but them.
func TestP122Signs(t *testing.T) {
	root, l := small()
	s := mustWrite(t, root, l, 2, 2)
	for _, at := range []int{0, 1, 2, 3, len(s) - 4, len(s) - 3, len(s) - 2, len(s) - 1} {
		for bit := range 8 {
			b := []byte(s)
			b[at] ^= 1 << bit
			mustNotOpen(t, string(b), api.ErrText)
			b[len(s)-5] ^= 1 // ahead of the sum
			mustNotOpen(t, string(b), api.ErrText)
		}
	}
}

func TestP122LeadsOut(t *testing.T) {
	root, _ := small()
	footer := entryOf(1, textOf(root)) + entryOf(2, "")
	s := sealed("", footer)
	end := len(s) - 12
	with := func(size uint32, sum string) string { return s[:end] + little(size) + sum + "SHC1" }
	sum := s[end+4 : end+8]
	if with(uint32(len(footer)), sum) != s {
		t.Fatal(len(s))
	}
	// Ahead of the sum, which cannot be right.
	for _, more := range []uint32{1, 2, 3, 4, 5, 100, 1 << 16, 1 << 31, math.MaxUint32 - uint32(len(footer))} {
		for _, sum := range []string{sum, "\x00\x00\x00\x00"} {
			mustNotOpen(t, with(uint32(len(footer))+more, sum), api.ErrText)
		}
	}
	// Shorter ones are not the one that has this sum.
	for size := range uint32(len(footer)) {
		mustNotOpen(t, with(size, sum), api.ErrSum)
	}
}

func TestP122Sum(t *testing.T) {
	root, l := small()
	s := mustWrite(t, root, l, 2, 2)
	f := mustOpen(t, s)
	end := len(s) - 12
	for at := end - f.Len; at < len(s)-4; at++ {
		if at >= end && at < end+4 {
			continue // the footer's length
		}
		for bit := range 8 {
			b := []byte(s)
			b[at] ^= 1 << bit
			mustNotOpen(t, string(b), api.ErrSum)
		}
	}
	// Ahead of the footer's form.
	for _, footer := range []string{"", "x", entryOf(1, textOf(root))} {
		s := []byte(sealed("", footer))
		s[len(s)-5] ^= 1
		mustNotOpen(t, string(s), api.ErrSum)
	}
}

func TestP122NoFooters(t *testing.T) {
	const text = "required int a #1;\nrequired int b #2;\n"
	one, two := entryOf(1, text), entryOf(2, "\x01\x04\x02\x06\x03")
	long := strings.Repeat(" ", api.MaxText)
	sealedOf := func(footer string) string { return sealed("aabbb", footer) }
	if f := mustOpen(t, sealedOf(one+two)); len(f.Groups) != 1 {
		t.Fatal(f)
	}
	for name, footer := range map[string]string{
		"no entries":            "",
		"no schema":             two,
		"no groups":             one,
		"neither":               entryOf(3, one+two),
		"schema twice":          one + one + two,
		"schema twice, behind":  one + two + one,
		"groups twice":          one + two + two,
		"groups ahead":          two + one,
		"groups ahead and not":  two + one + two,
		"a number 0":            entryOf(0, "") + one + two,
		"a number 0, behind":    one + two + entryOf(0, "x"),
		"a number 0, between":   one + entryOf(0, "") + two,
		"ends in a number":      one + two + "\x80",
		"ends behind a number":  one + two + "\x03",
		"ends in a length":      one + two + "\x03\x80",
		"ends in a text":        one + two + "\x03\x02x",
		"a number in two bytes": "\x81\x00" + one[1:] + two,
		"a length in two bytes": "\x01\xa6\x00" + text + two,
		"a great length":        one + two + "\x03" + wire.Uvarint(math.MaxUint64) + "x",
		"a length of 2^63":      one + two + "\x03" + wire.Uvarint(1<<63) + "x",
		"no schema's text":      entryOf(1, "required int a #1; required int b") + two,
		"a name twice":          entryOf(1, "required int a #1; required int a #2;") + two,
		"an ID twice":           entryOf(1, "required int a #1; required int b #1;") + two,
		"no nodes":              entryOf(1, "") + entryOf(2, ""),
		"too deep":              entryOf(1, strings.Repeat("required group a #1 {", 6)) + two,
		"too long a schema":     entryOf(1, text+long) + two,
		"another schema":        entryOf(1, "required int a #1;") + two,
		"no numbers":            one + entryOf(2, ""),
		"one number":            one + entryOf(2, "\x01"),
		"a number fewer":        one + entryOf(2, "\x01\x04\x02\x06"),
		"a number more":         one + entryOf(2, "\x01\x04\x02\x06\x03\x01"),
		"ends within a number":  one + entryOf(2, "\x01\x04\x02\x06\x83"),
		"two bytes for one":     one + entryOf(2, "\x81\x00\x04\x02\x06\x03"),
		"no records":            one + entryOf(2, "\x00\x04\x02\x06\x03"),
		"no records, behind":    one + entryOf(2, "\x01\x04\x02\x06\x03\x00\x09\x00\x09\x00"),
		"no records, ahead":     one + entryOf(2, "\x00\x04\x00\x04\x00\x01\x04\x02\x06\x03"),
		"too many records":      one + entryOf(2, numbers(200001, 4, 2, 6, 3)),
		"records without end":   one + entryOf(2, wire.Uvarint(math.MaxUint64)+"\x04\x02\x06\x03"),
		"a chunk too early":     one + entryOf(2, "\x01\x03\x03\x06\x03"),
		"a chunk at 0":          one + entryOf(2, "\x01\x00\x06\x06\x03"),
		"a chunk too late":      one + entryOf(2, "\x01\x05\x01\x06\x03"),
		"a chunk too long":      one + entryOf(2, "\x01\x04\x03\x06\x03"),
		"a chunk too short":     one + entryOf(2, "\x01\x04\x01\x06\x03"),
		"the last too long":     one + entryOf(2, "\x01\x04\x02\x06\x04"),
		"the last too short":    one + entryOf(2, "\x01\x04\x02\x06\x02"),
		"another order":         one + entryOf(2, "\x01\x06\x03\x04\x02"),
		"a gap":                 one + entryOf(2, "\x01\x04\x01\x06\x03"),
		"a great place":         one + entryOf(2, wire.Uvarint(1)+wire.Uvarint(1<<40)+"\x02\x06\x03"),
		"great lengths":         one + entryOf(2, "\x01\x04"+wire.Uvarint(math.MaxUint64-3)+"\x00\x09"),
		"lengths that run over": one + entryOf(2, "\x01\x04"+wire.Uvarint(math.MaxUint64)+"\x03\x06"),
		"a group again":         one + entryOf(2, "\x01\x04\x02\x06\x03\x01\x04\x02\x06\x03"),
	} {
		if f, err := file.Open(sealedOf(footer)); toldFooter(f) != noFooter || err != api.ErrText {
			t.Errorf("%s: %+v, %v", name, f, err)
		}
		mustNotOpen(t, sealedOf(footer), api.ErrText)
	}
	// No groups, and yet there is something between.
	if f, err := file.Open(sealedOf(one + entryOf(2, ""))); toldFooter(f) != noFooter || err != api.ErrText {
		t.Errorf("%+v, %v", f, err)
	}
	if f := mustOpen(t, sealed("", one+entryOf(2, ""))); len(f.Groups) != 0 {
		t.Error(f)
	}
}

// TestP120Others: entries more, wherever they stand, whatever they are.
func TestP120Others(t *testing.T) {
	root, l := small()
	chunks, tells := made(groupOf(root, l, 2))
	one, two := entryOf(1, textOf(root)), entryOf(2, tells)
	for _, number := range []uint64{3, 4, 127, 128, 999, 1000, 1001, 1 << 14, api.MaxData, api.MaxData + 1, 1<<32 + 1, 1<<63 + 2, math.MaxUint64} {
		for _, text := range []string{"", "x", one, two, "\x80", strings.Repeat("\x00", 300)} {
			more := entryOf(number, text)
			for _, footer := range []string{more + one + two, one + more + two, one + two + more, more + more + one + more + two + more} {
				s := sealed(chunks, footer)
				if f := mustOpen(t, s); f.Len != len(footer) || f.Groups[0].Records != len(l) {
					t.Fatalf("%+v", f)
				}
				mustRead(t, s, root, l)
			}
		}
	}
}

// part of a footer that is made by hand.
type part struct {
	number uint64
	text   string
}

// uvarint at the beginning of s, as few bytes as it takes.
func uvarint(s string) (n uint64, rest string, ok bool) {
	n, used := binary.Uvarint([]byte(s))
	if used <= 0 || used > 1 && s[used-1] == 0 {
		return 0, "", false
	}
	return n, s[used:], true
}

// footerBy the rule of P120: all entries, then what they are.
func footerBy(footer string, begin int) (f file.Footer, ok bool) {
	var parts []part
	for left := footer; left != ""; {
		number, rest, ok1 := uvarint(left)
		size, rest, ok2 := uvarint(rest)
		if !ok1 || !ok2 || number == 0 || size > uint64(len(rest)) {
			return f, false
		}
		parts = append(parts, part{number, rest[:size]})
		left = rest[size:]
	}
	order := ""
	texts := map[uint64]string{}
	for _, p := range parts {
		if p.number < 3 {
			order += fmt.Sprint(p.number)
			texts[p.number] = p.text
		}
	}
	root, err := schema.Read(texts[1])
	if order != "12" || err != nil {
		return f, false
	}
	var l []int
	for left := texts[2]; left != ""; {
		n, rest, ok := uvarint(left)
		if !ok || n > api.MaxData {
			return f, false
		}
		l, left = append(l, int(n)), rest
	}
	f = file.Footer{Root: root, Len: len(footer)}
	each := 1 + 2*len(leavesOf(root))
	for at := 4; ; l = l[each:] {
		if len(l) == 0 {
			return f, at == begin
		}
		if len(l) < each || l[0] == 0 {
			return file.Footer{}, false
		}
		g := file.Part{Records: l[0]}
		for i := 1; i < each; i += 2 {
			if l[i] != at {
				return file.Footer{}, false
			}
			g.Chunks = append(g.Chunks, file.Spot{At: at, Len: l[i+1]})
			at += l[i+1]
		}
		f.Groups = append(f.Groups, g)
	}
}

// anyFooter: mostly right, for chunks of so many bytes.
func anyFooter(r *rand.Rand, size int) string {
	texts := []string{"required int a #1;", "optional int a #1; repeated group b #2 { required bool c #3; }", "required int a #1; required int b #2; required int c #3;"}
	if r.Intn(8) == 0 {
		texts = []string{"", "required int a", "required int a #1; required int a #2;", "required group a #1 { }"}
	}
	text := texts[r.Intn(len(texts))]
	leaves := 1
	if root, err := schema.Read(text); err == nil {
		leaves = len(leavesOf(root))
	}
	var l []int
	at := 4
	for g := r.Intn(4); g >= 0 && (g > 0 || size > 0); g-- {
		l = append(l, 1+r.Intn(3))
		for leaf := range leaves {
			n := r.Intn(size + 1)
			if g <= 1 && leaf == leaves-1 {
				n = size
			}
			l = append(l, at, n)
			at, size = at+n, size-n
		}
		if g == 1 {
			break
		}
	}
	if r.Intn(3) == 0 && len(l) > 0 {
		l[r.Intn(len(l))] += []int{1, -1, 100, api.MaxData, 1 << 40}[r.Intn(5)]
	}
	if r.Intn(8) == 0 && len(l) > 0 {
		l = l[:len(l)-1]
	}
	parts := []part{{1, text}, {2, numbers(l...)}}
	for range r.Intn(3) {
		at := r.Intn(len(parts) + 1)
		parts = append(parts[:at:at], append([]part{{3 + uint64(r.Intn(2000)), string(make([]byte, r.Intn(3)))}}, parts[at:]...)...)
	}
	switch r.Intn(16) {
	case 0:
		r.Shuffle(len(parts), func(i, k int) { parts[i], parts[k] = parts[k], parts[i] })
	case 1:
		parts = append(parts, parts[r.Intn(len(parts))])
	case 2:
		parts = parts[:len(parts)-1]
	case 3:
		parts[r.Intn(len(parts))].number = uint64(r.Intn(4))
	}
	s := ""
	for _, p := range parts {
		s += entryOf(p.number, p.text)
	}
	if r.Intn(8) == 0 && s != "" {
		b := []byte(s)
		b[r.Intn(len(b))] ^= 1 << r.Intn(8)
		s = string(b)
	}
	return s
}

func TestP122ByTheRule(t *testing.T) {
	r := rand.New(rand.NewSource(122))
	right := 0
	for range 60000 {
		size := []int{0, 1, 5, 9}[r.Intn(4)]
		footer := anyFooter(r, size)
		want, ok := footerBy(footer, 4+size)
		f, err := file.Open(sealed(strings.Repeat("x", size), footer))
		if ok && (err != nil || toldFooter(f) != toldFooter(want)) || !ok && (err != api.ErrText || toldFooter(f) != noFooter) {
			t.Fatalf("%q behind %d bytes: %+v, %v, not %+v, %v", footer, size, f, err, want, ok)
		}
		if ok {
			right++
		}
	}
	if right < 10000 || right > 50000 {
		t.Error(right)
	}
}
