package data_test

import (
	"fmt"
	"math"
	"math/big"
	"math/rand"
	"reflect"
	"regexp"
	"slices"
	"strings"
	"testing"

	"shredcol/api"
	"shredcol/data"
)

// textOf what is right, by the chapter's words.
func textOf(n api.Node, d api.Datum) string {
	var l []string
	switch {
	case d.None:
		return "null"
	case n.Rep == api.Repeated:
		n.Rep = api.Required
		for _, e := range d.L {
			l = append(l, textOf(n, e))
		}
		return "[" + strings.Join(l, ",") + "]"
	case n.Kind == api.Group:
		for i, f := range d.F {
			l = append(l, n.Sub[i].Name+":"+textOf(n.Sub[i], f))
		}
		return "{" + strings.Join(l, ",") + "}"
	case n.Kind == api.Bool:
		return fmt.Sprint(d.V.N == 1)
	case n.Kind == api.Double:
		return fmt.Sprintf("x%016x", uint64(d.V.N))
	case n.Kind != api.Bytes:
		return fmt.Sprint(d.V.N)
	}
	for _, b := range []byte(d.V.S) {
		one := fmt.Sprintf("\\%02x", b)
		if b > 31 && b < 127 && !strings.Contains(`"\`, string(rune(b))) {
			one = string(rune(b))
		}
		l = append(l, one)
	}
	return `"` + strings.Join(l, "") + `"`
}

func TestP51Text(t *testing.T) {
	for want, d := range map[string]api.Datum{
		`{a:7,b:{c:[{d:null,e:true},{d:"x",e:false}],f:x3ff8000000000000},g:[-1,9223372036854775807,-9223372036854775808]}`: smallOne(),
		`{a:0,b:null,g:[]}`:                                    fields(whole(0), none(), list()),
		`{a:-2147483648,b:null,g:[]}`:                          fields(whole(math.MinInt32), none(), list()),
		`{a:2147483647,b:null,g:[0]}`:                          fields(whole(math.MaxInt32), none(), list(long(0))),
		`{a:-1,b:{c:[],f:x0000000000000000},g:[10,-10]}`:       fields(whole(-1), fields(list(), double(0)), list(long(10), long(-10))),
		`{a:100,b:{c:[],f:x8000000000000000},g:[]}`:            fields(whole(100), fields(list(), double(math.Copysign(0, -1))), list()),
		`{a:1,b:{c:[],f:xffffffffffffffff},g:[]}`:              fields(whole(1), fields(list(), api.Datum{V: api.Value{Kind: api.Double, N: -1}}), list()),
		`{a:1,b:{c:[],f:x123456789abcdef0},g:[]}`:              fields(whole(1), fields(list(), api.Datum{V: api.Value{Kind: api.Double, N: 0x123456789abcdef0}}), list()),
		`{a:1,b:{c:[{d:"",e:true}],f:x7ff0000000000000},g:[]}`: fields(whole(1), fields(list(fields(text(""), truth(1))), double(math.Inf(1))), list()),
		`{a:1,b:{c:[{d:" !#[]~\22\5c\00\1f\7f\80\ff\c3\a9{},:null",e:true}],f:x7ff0000000000000},g:[]}`: fields(whole(1), fields(list(fields(text(" !#[]~\"\\\x00\x1f\x7f\x80\xffé{},:null"), truth(1))), double(math.Inf(1))), list()),
	} {
		if s, err := data.Text(small(), d); s != want || err != nil {
			t.Errorf("%s, %v, not %s", s, err, want)
		}
		if got, err := data.Read(small(), want); fmt.Sprint(got) != fmt.Sprint(d) || err != nil {
			t.Errorf("%s: %+v, %v", want, got, err)
		}
	}
}

func TestP51EveryByte(t *testing.T) {
	root := schemaOf("required bytes a #1;")
	for b := range 256 {
		d := fields(text(string([]byte{byte(b)})))
		want := textOf(root, d)
		if s, err := data.Text(root, d); s != want || err != nil {
			t.Errorf("%d: %s, %v, not %s", b, s, err, want)
		}
		// Each has one text alone: as it is, or by two digits.
		asItIs, byDigits := `{a:"`+string([]byte{byte(b)})+`"}`, fmt.Sprintf(`{a:"\%02x"}`, b)
		for s, wrong := range map[string]int{asItIs: 4, byDigits: 5} {
			got, err := data.Read(root, s)
			switch {
			case s == want && (err != nil || got.F[0].V.S != string([]byte{byte(b)})):
				t.Errorf("%q: %v, %v", s, got, err)
			case s == want, b == '"' && s == asItIs, b == '\\' && s == asItIs: // what these two do, TestP51Faults tells
			case !isNothing(got) || !faultAt(err, wrong):
				t.Errorf("%q: %v, %+v, not at %d", s, got, err, wrong)
			}
		}
		big := strings.ToUpper(byDigits[5:7])
		if _, err := data.Read(root, `{a:"\`+big+`"}`); big != byDigits[5:7] && !faultAt(err, 5+strings.IndexAny(big, "ABCDEF")) {
			t.Errorf("%s: %+v", big, err)
		}
	}
}

func faultAt(err error, at int) bool {
	f, ok := err.(*api.Fault)
	return ok && f.At == at && f.Err == api.ErrText
}

func TestP51Faults(t *testing.T) {
	c := `{a:1,b:{c:[{d:"`                                           // 15 bytes
	forty := `{a:1,b:null,g:[` + strings.Repeat("1,", 39) + "1"      // 15 + 79 bytes
	hundred := c + strings.Repeat("x", 100)                          // 115 bytes
	digits := c + strings.Repeat(`\00`, 99) + "~"                    // 313 bytes
	groups := `{a:1,b:{c:[` + strings.Repeat(`{d:null,e:true},`, 40) // 11 + 640 bytes
	for s, at := range map[string]int{
		// It ends too early, or goes on.
		``: 0, `{`: 1, `{a`: 2, `{a:`: 3, `{a:-`: 4, `{a:1`: 4, `{a:12`: 5, `{a:1,`: 5, `{a:1,b:n`: 8, `{a:1,b:null,g:[`: 15, `{a:1,b:null,g:[1`: 16, `{a:1,b:null,g:[1,`: 17, `{a:1,b:null,g:[]`: 16,
		c: 15, c + `\`: 16, c + `\0`: 17, c + `\4`: 17, c + `\00`: 18, c + `x`: 16, c + `",e:tru`: 22,
		`{a:1,b:null,g:[]} `: 17, `{a:1,b:null,g:[]}{`: 17, `{a:1,b:null,g:[]}}`: 17, "{a:1,b:null,g:[]}\n": 17, "{a:1,b:null,g:[]}\x00": 17, `{a:1,b:null,g:[],`: 16,
		// No blanks.
		` {a:1,b:null,g:[]}`: 0, `{ a:1,b:null,g:[]}`: 1, `{a :1,b:null,g:[]}`: 2, `{a: 1,b:null,g:[]}`: 3, `{a:1 ,b:null,g:[]}`: 4, `{a:1, b:null,g:[]}`: 5, `{a:1,b:null,g:[ ]}`: 15, `{a:1,b:null,g:[1, 2]}`: 17, `{a:1,b:null,g:[]	}`: 16,
		// Names, and what stands between.
		`{}`: 1, `{b:null}`: 1, `{A:1`: 1, `{a=1`: 2, `{aa:1`: 2, `{"a":1`: 1, `{a1`: 2, `[a:1]`: 0, `null`: 0, `(`: 0, `{a:1}`: 4, `{a:1;b:null,g:[]}`: 4, `{a:1,b:null}`: 11, `{a:1,,b:null,g:[]}`: 5, `{a:1,g:[],b:null}`: 5, "{\x00a:1": 1,
		// None.
		`{a:null,b:null,g:[]}`: 3, `{a:1,b:nul}`: 10, `{a:1,b:nil`: 8, `{a:1,b:Null`: 7, `{a:1,b:nulll`: 11, `{a:1,b:null,g:null}`: 14, `{a:1,b:null,g:[null]}`: 15, `{a:1,b:{c:[null]`: 11, `{a:1,b:[]`: 7, `{a:1,b:1`: 7, c[:14] + `1`: 14, c[:14] + `x`: 14, c[:14] + `nulx`: 17,
		// Lists.
		`{a:1,b:null,g:1}`: 14, `{a:1,b:null,g:{}}`: 14, `{a:1,b:null,g:[,]}`: 15, `{a:1,b:null,g:[1,]}`: 17, `{a:1,b:null,g:[1,,2]}`: 17, `{a:1,b:null,g:[1 2]}`: 16, `{a:1,b:null,g:[1}`: 16, `{a:1,b:null,g:[[1]]}`: 15, `{a:1,b:null,g:[1]]}`: 17, `{a:1,b:{c:[,]}}`: 11, `{a:1,b:{c:[{}]}}`: 12, `{a:1,b:{c:[]]`: 12, `{a:1,b:{c:[1`: 11,
		forty + `}`: 94, forty: 94, forty + `,`: 95, forty + `,1]}`: 95, forty + `,]}`: 95, forty + `,x`: 95, forty + `,007`: 95, forty + `,1`: 95,
		groups: 651, groups + `{d:null`: 651, groups + `]`: 651, groups[:650] + `}`: 650,
		// Numbers.
		`{a:01,b:null,g:[]}`: 3, `{a:00,b:null,g:[]}`: 3, `{a:-0,b:null,g:[]}`: 3, `{a:-01,b:null,g:[]}`: 3, `{a:-00`: 3, `{a:01`: 3, `{a:-0`: 3, `{a:0x1`: 4, `{a:2147483648,b:null,g:[]}`: 3, `{a:-2147483649,b:null,g:[]}`: 3, `{a:2147483648`: 3, `{a:99999999999999999999`: 3, `{a:12345678901234567890123456789`: 3, `{a:4294967297,`: 3,
		`{a:x,b:null,g:[]}`: 3, `{a:-,b:null,g:[]}`: 4, `{a:--1`: 4, `{a:+1`: 3, `{a:1.0`: 4, `{a:1e3`: 4, `{a:1_0`: 4, `{a:-x`: 4, `{a:,`: 3, `{a:٣`: 3, `{a:1-`: 4, `{a:"1"`: 3, `{a:true`: 3, `{a:-null`: 4, `{a: -1`: 3, `{a:- 1`: 4,
		`{a:1,b:null,g:[9223372036854775808]}`: 15, `{a:1,b:null,g:[-9223372036854775809]}`: 15, `{a:1,b:null,g:[1,18446744073709551617]}`: 17, `{a:1,b:null,g:[10000000000000000000]}`: 15, `{a:1,b:null,g:[0,00]}`: 17, `{a:1,b:null,g:[1,-0]}`: 17, `{a:1,b:null,g:[0000000000000000000001]}`: 15,
		// Bytes.
		c[:14] + `'x'`: 14, c + "\x1f": 15, c + "\x7f": 15, c + "\x00": 15, c + "\xff": 15, c + "é": 15, c + "a\n": 16, c + `"x`: 16, c + `""`: 16,
		c + `\"`: 16, c + `\\`: 16, c + `\n`: 16, c + `\x00`: 16, c + `\g0`: 16, c + `\0g`: 17, c + `\0"`: 17, c + `\4g`: 17, c + `\4"`: 17, c + `\0A`: 17, c + `\A0`: 16, c + `\ 0`: 16, c + `\0 `: 17,
		c + `\41"`: 16, c + `\20`: 16, c + `\7e`: 16, c + `\21`: 16, c + `\23`: 16, c + `\5b`: 16, c + `\5d`: 16, c + `\22\22\7d`: 22,
		hundred: 115, hundred + `x"`: 115, hundred + `x`: 115, hundred + `\00`: 115, hundred + `\41`: 115, hundred + `\`: 115, hundred + "\x00": 115, hundred + `",e:x`: 119,
		digits: 313, digits + `x`: 313, digits + `\00"`: 313, digits + `",e:x`: 317,
		// Bools.
		c + `",e:1`: 19, c + `",e:True`: 19, c + `",e:yes`: 19, c + `",e:null`: 19, c + `",e:tfalse`: 20, c + `",e:falsy`: 23, c + `",e:truefalse`: 23, c + `",e:"true"`: 19, c + `",e:}`: 19,
		// Doubles.
		`{a:1,b:{c:[],f:1.5}`: 15, `{a:1,b:{c:[],f:3ff8000000000000`: 15, `{a:1,b:{c:[],f:X`: 15, `{a:1,b:{c:[],f:x`: 16, `{a:1,b:{c:[],f:x}`: 16, `{a:1,b:{c:[],f:x3ff800000000000}`: 31, `{a:1,b:{c:[],f:x3ff80000000000000}`: 32, `{a:1,b:{c:[],f:x3FF8`: 17, `{a:1,b:{c:[],f:x-1`: 16, `{a:1,b:{c:[],f:x3ff8g`: 20, `{a:1,b:{c:[],f:null`: 15,
	} {
		if d, err := data.Read(small(), s); !isNothing(d) || !faultAt(err, at) {
			t.Errorf("%q: %+v, %+v, not at %d", s, d, err, at)
		}
	}
	// Names byte by byte, whatever they are.
	words := schemaOf("optional bool null #1; required int true #2; required int trueish #3;")
	for s, at := range map[string]int{
		`{null:null,true:1,trueish:2}`: -1, `{null:true,true:1,trueish:2}`: -1, `{nul:`: 4, `{nulls:`: 5, `{null:nullish`: 10, `{null:trueish`: 10, `{null:null,trueish:1`: 15, `{null:null,true:1,true:1`: 22, `{null:null,true:1,truthfully:1`: 21,
	} {
		if d, err := data.Read(words, s); at < 0 && err != nil || at >= 0 && (!isNothing(d) || !faultAt(err, at)) {
			t.Errorf("%q: %+v, %+v, not at %d", s, d, err, at)
		}
	}
}

func TestP51Bound(t *testing.T) {
	root := schemaOf("repeated bytes a #1; repeated bytes b #2; repeated bytes c #3;")
	full := text(strings.Repeat("x", 97))
	d := fields(list(slices.Repeat([]api.Datum{full}, 40)...), list(slices.Repeat([]api.Datum{full}, 39)...), list())
	for _, last := range []int{83, 84, 85} {
		d.F[2] = list(text(strings.Repeat("y", last)))
		s, err := data.Text(root, d)
		if len(s) != 7916+last || err != nil {
			t.Fatal(len(s), err)
		}
		got, err := data.Read(root, s)
		switch {
		case len(s) > api.MaxText && (!isNothing(got) || err != api.ErrBound):
			t.Errorf("%d bytes: %v", len(s), err)
		case len(s) <= api.MaxText && (err != nil || !reflect.DeepEqual(got, d)):
			t.Errorf("%d bytes: %v", len(s), err)
		}
	}
	for _, s := range []string{strings.Repeat("?", 8001), strings.Repeat("{", 1<<20)} {
		if got, err := data.Read(root, s); !isNothing(got) || err != api.ErrBound {
			t.Error(got, err)
		}
	}
	if _, err := data.Read(root, strings.Repeat("?", 8000)); !faultAt(err, 0) {
		t.Error(err)
	}
}

// otherReader reads by words and patterns, from the left, and tells where it cannot go
// on: what it has read, what is left of the text, whether it could.
type otherReader struct {
	pattern map[string]*regexp.Regexp
}

func newOtherReader() otherReader {
	p := map[string]*regexp.Regexp{}
	for name, s := range map[string]string{
		"number": `^-?[0-9]+`,
		"byte":   `^(?:[ !#-\[\]-~]|\\[0-9a-f][0-9a-f])`,
		"half":   `^\\[0-9a-f]?`,
		"double": `^x[0-9a-f]{0,16}`,
	} {
		p[name] = regexp.MustCompile(s)
	}
	return otherReader{p}
}

// past a word: how much of it there is, and whether that is all.
func past(s, word string) (int, bool) {
	for i := range word {
		if !strings.HasPrefix(s, word[:i+1]) {
			return i, false
		}
	}
	return len(word), true
}

// read answers how far the text is right for the node, and whether all of the node is
// read there.
func (o otherReader) read(n api.Node, s string) (far int, ok bool) {
	required := n
	required.Rep = api.Required
	switch {
	case n.Rep == api.Optional && strings.HasPrefix(s, "n"):
		return past(s, "null")
	case n.Rep == api.Repeated:
		return o.list(required, s)
	case n.Kind == api.Group:
		return o.group(n, s)
	case n.Kind == api.Bool && strings.HasPrefix(s, "f"):
		return past(s, "false")
	case n.Kind == api.Bool:
		return past(s, "true")
	case n.Kind == api.Bytes:
		return o.bytes(s)
	case n.Kind == api.Double:
		far = len(o.pattern["double"].FindString(s))
		return far, far == 17
	}
	number := o.pattern["number"].FindString(s)
	if number == "" {
		far, _ = past(s, "-")
		return far, false
	}
	bits := map[int]uint{api.Int: 31, api.Long: 63}[n.Kind]
	x, _ := new(big.Int).SetString(number, 10)
	most := new(big.Int).Lsh(big.NewInt(1), bits)
	least := new(big.Int).Neg(most)
	if x.String() != number || x.Cmp(most) >= 0 || x.Cmp(least) < 0 {
		return 0, false
	}
	return len(number), true
}

func (o otherReader) list(element api.Node, s string) (far int, ok bool) {
	if strings.HasPrefix(s, "[]") {
		return 2, true
	}
	for i := range 41 {
		more, ok := past(s[far:], []string{"[", ","}[min(i, 1)])
		if !ok && i > 0 && strings.HasPrefix(s[far:], "]") {
			return far + 1, true
		}
		far += more
		if !ok || i == 40 {
			return far, false
		}
		more, ok = o.read(element, s[far:])
		far += more
		if !ok {
			return far, false
		}
	}
	return far, false
}

func (o otherReader) group(n api.Node, s string) (far int, ok bool) {
	open := "{"
	for _, in := range n.Sub {
		more, ok := past(s[far:], open+in.Name+":")
		far += more
		if !ok {
			return far, false
		}
		more, ok = o.read(in, s[far:])
		far += more
		if !ok {
			return far, false
		}
		open = ","
	}
	more, ok := past(s[far:], "}")
	return far + more, ok
}

func (o otherReader) bytes(s string) (far int, ok bool) {
	far, ok = past(s, `"`)
	for many := 0; ok; many++ {
		if strings.HasPrefix(s[far:], `"`) {
			return far + 1, true
		}
		one := o.pattern["byte"].FindString(s[far:])
		switch {
		case many == 100:
			return far, false
		case one == "":
			return far + len(o.pattern["half"].FindString(s[far:])), false
		case len(one) == 3 && textOf(api.Node{Kind: api.Bytes}, text(string([]byte{hex(one[1])<<4 | hex(one[2])}))) != `"`+one+`"`:
			return far + 1, false
		}
		far += len(one)
	}
	return far, false
}

func hex(c byte) byte { return byte(strings.IndexByte("0123456789abcdef", c)) }

// spoilText by one change, which may leave it right.
func spoilText(r *rand.Rand, s string) string {
	i := r.Intn(len(s) + 1)
	j := min(len(s), i+r.Intn(3))
	bits := []string{"", "0", "00", "1", "9", "-", "-0", "\\", "\"", "\\4", "\\41", "\\0", "\\00", ",", "{", "}", "[", "]", ":", "null", "n", "true", "t", "false", "x", " ", "a", "f", "A", "\x00", "\x7f", "99999999999", strings.Repeat("x", 101), strings.Repeat("1,", 41)}
	switch r.Intn(8) {
	case 0:
		return s[:i]
	case 1:
		return s[:i] + string([]byte{byte(r.Intn(256))}) + s[j:]
	case 2:
		return s[:i] + s[i:j] + s[i:]
	case 3:
		k := r.Intn(len(s) + 1)
		return s[:i] + s[k:]
	}
	return s[:i] + bits[r.Intn(len(bits))] + s[j:]
}

func TestP51SpoiltTexts(t *testing.T) {
	r := rand.New(rand.NewSource(51))
	o := newOtherReader()
	right, wrong := 0, 0
	for range 60000 {
		root, d := anyRecord(r)
		s := textOf(root, d)
		for range r.Intn(3) {
			s = spoilText(r, s)
		}
		if len(s) > api.MaxText {
			continue
		}
		got, err := data.Read(root, s)
		far, ok := o.read(root, s)
		if ok && far == len(s) {
			right++
			if err != nil || textOf(root, got) != s || data.Check(root, got) != nil {
				t.Fatalf("%q of %+v: %+v, %v", s, root, got, err)
			}
			continue
		}
		wrong++
		if !isNothing(got) || !faultAt(err, far) {
			t.Fatalf("%q of %+v: %+v, %+v, not at %d", s, root, got, err, far)
		}
	}
	if right < 1000 || wrong < 10000 {
		t.Error(right, wrong)
	}
}

// TestP51Beginnings: each beginning of a text ends too early.
func TestP51Beginnings(t *testing.T) {
	r := rand.New(rand.NewSource(52))
	for range 200 {
		root, d := anyRecord(r)
		s := textOf(root, d)
		for i := range min(len(s), api.MaxText+1) {
			if got, err := data.Read(root, s[:i]); !isNothing(got) || !faultAt(err, i) {
				t.Fatalf("%q of %+v: %+v, %+v", s[:i], root, got, err)
			}
		}
	}
}

func TestP54WrittenIsRead(t *testing.T) {
	r := rand.New(rand.NewSource(54))
	for range 20000 {
		root, d := anyRecord(r)
		s, err := data.Text(root, d)
		if want := textOf(root, d); s != want || err != nil {
			t.Fatalf("%s, %v, not %s", s, err, want)
		}
		if len(s) > api.MaxText {
			continue
		}
		if got, err := data.Read(root, s); !reflect.DeepEqual(got, d) || err != nil {
			t.Fatalf("%s of %+v: %+v, %v, not %+v", s, root, got, err, d)
		}
	}
}

// TestP51Values: a value by itself, as it stands in a record, with whatever behind it.
func TestP51Values(t *testing.T) {
	r := rand.New(rand.NewSource(515))
	for range 20000 {
		kind := 1 + r.Intn(5)
		v := anyValue(r, kind)
		want := textOf(api.Node{Rep: api.Required, Kind: kind}, api.Datum{V: v})
		s, err := data.ValueText(v)
		if s != want || err != nil {
			t.Fatalf("%+v: %s, %v, not %s", v, s, err, want)
		}
		for _, behind := range []string{"", " ", ")", `"`, "x", "\x00"} {
			if got, used, err := data.ReadValue(kind, s+behind); got != v || used != len(s) || err != nil {
				t.Fatalf("%s%s: %+v, %d, %v", s, behind, got, used, err)
			}
		}
		// As a record has it, so has it a value alone: what is spoilt, too.
		spoilt := spoilText(r, s)
		root := api.Node{Name: "root", Rep: api.Required, Kind: api.Group, Sub: []api.Node{{ID: 1, Name: "a", Rep: api.Required, Kind: kind}}}
		got, used, err := data.ReadValue(kind, spoilt)
		if err == nil {
			d, err := data.Read(root, "{a:"+spoilt[:used]+"}")
			if err != nil || d.F[0].V != got {
				t.Fatalf("%s: %+v, %d, not %+v, %v", spoilt, got, used, d, err)
			}
			continue
		}
		fault, _ := err.(*api.Fault)
		if _, whole := data.Read(root, "{a:"+spoilt); fault == nil || !faultAt(whole, fault.At+3) || fault.Err != api.ErrText || used != 0 || got != (api.Value{}) {
			t.Fatalf("%s: %+v, %d, %v, not %+v", spoilt, got, used, err, whole)
		}
	}
}

func TestP51NoValues(t *testing.T) {
	for _, v := range []api.Value{{}, {Kind: 6}, {Kind: -1}, {Kind: api.Int, N: math.MaxInt32 + 1}, {Kind: api.Bool, N: 2}, {Kind: api.Long, S: "x"}, {Kind: api.Bytes, N: 1}, {Kind: api.Bytes, S: strings.Repeat("x", api.MaxBytes+1)}} {
		if s, err := data.ValueText(v); s != "" || err != api.ErrKind {
			t.Errorf("%+v: %q, %v", v, s, err)
		}
	}
	for _, kind := range []int{api.Group, -1, 6, math.MaxInt, math.MinInt} {
		for _, s := range []string{"", "1", "null", "{}"} {
			if v, used, err := data.ReadValue(kind, s); v != (api.Value{}) || used != 0 || err != api.ErrKind {
				t.Errorf("%d, %s: %+v, %d, %v", kind, s, v, used, err)
			}
		}
	}
}
