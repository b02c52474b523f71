package schema_test

import (
	"fmt"
	"math/rand"
	"reflect"
	"regexp"
	"strconv"
	"strings"
	"testing"

	"shredcol/api"
	"shredcol/schema"
)

// textOf a schema by the chapter's words.
func textOf(root api.Node) string {
	var lines []string
	var tell func(n api.Node, groups int)
	tell = func(n api.Node, groups int) {
		blanks := strings.Repeat("  ", groups)
		rep := map[int]string{1: "required", 2: "optional", 3: "repeated"}[n.Rep]
		kind := map[int]string{0: "group", 1: "bool", 2: "int", 3: "long", 4: "bytes", 5: "double"}[n.Kind]
		head := fmt.Sprintf("%s%s %s %s #%d", blanks, rep, kind, n.Name, n.ID)
		if kind != "group" {
			lines = append(lines, head+";")
			return
		}
		lines = append(lines, head+" {")
		for _, in := range n.Sub {
			tell(in, groups+1)
		}
		lines = append(lines, blanks+"}")
	}
	for _, n := range root.Sub {
		tell(n, 0)
	}
	return strings.Join(append(lines, ""), "\n")
}

const smallText = `required int a #1;
optional group b #2 {
  repeated group c #3 {
    optional bytes d #4;
    repeated double a #7;
  }
  required bool e #5;
}
repeated long f #6;
`

func TestP41Text(t *testing.T) {
	for want, root := range map[string]api.Node{
		smallText:                 small(),
		"required int a #1;\n":    rootOf(leaf(1, "a")),
		"required int z #1000;\n": rootOf(leaf(1000, "z")),
		"required int required #9;\nrequired int group #10;\n": rootOf(leaf(9, "required"), leaf(10, "group")),
		"optional group g #1 {\n  optional group g #2 {\n    optional group g #3 {\n      optional group g #4 {\n        required int x #5;\n      }\n    }\n  }\n}\n": nested(4),
	} {
		if s, err := schema.Text(root); s != want || err != nil {
			t.Errorf("%s, %v, not %s", s, err, want)
		}
		if n, err := schema.Read(want); !reflect.DeepEqual(n, root) || err != nil {
			t.Errorf("%s: %+v, %v", want, n, err)
		}
	}
}

func TestP45WrittenIsRead(t *testing.T) {
	r := rand.New(rand.NewSource(45))
	for range 3000 {
		root := anySchema(r)
		s, err := schema.Text(root)
		if want := textOf(root); s != want || err != nil {
			t.Fatalf("%s, %v, not %s", s, err, want)
		}
		if n, err := schema.Read(s); !reflect.DeepEqual(n, root) || err != nil {
			t.Fatalf("%s: %+v, %v", s, n, err)
		}
	}
	// The longest text there is.
	var l []api.Node
	for i := range 35 {
		n := leaf(900+i, "longestnam"+nameOf(i))
		n.Kind = api.Double
		l = append(l, n)
	}
	long := group(4, "longestnamed", l...)
	for id := 3; id > 0; id-- {
		long = group(id, "longestnamed", long)
	}
	s, err := schema.Text(rootOf(long))
	if err != nil || len(s) > api.MaxText {
		t.Fatal(len(s), err)
	}
	if n, err := schema.Read(s); !reflect.DeepEqual(n, rootOf(long)) || err != nil {
		t.Error(n, err)
	}
}

// words, and single bytes that are none (only their places count: (?s). is a rune).
var words = regexp.MustCompile(`[A-Za-z]+|#[0-9]*|(?s).`)

var idWord = regexp.MustCompile(`^#[1-9][0-9]{0,3}$`)

// spread: the same words with other blanks between, none where none is needed.
func spread(r *rand.Rand, s string) string {
	var b strings.Builder
	last := ""
	for _, w := range words.FindAllString(s, -1) {
		if w == " " || w == "\n" {
			continue
		}
		needed := len(last) > 0 && isWordOfLetters(last) && isWordOfLetters(w)
		for needed || r.Intn(3) == 0 {
			b.WriteString([]string{" ", "\n"}[r.Intn(2)])
			needed = false
		}
		b.WriteString(w)
		last = w
	}
	return b.String() + strings.Repeat("\n ", r.Intn(2))
}

func isWordOfLetters(w string) bool {
	return strings.ContainsAny(strings.ToLower(w[:1]), "abcdefghijklmnopqrstuvwxyz")
}

func TestP41Blanks(t *testing.T) {
	r := rand.New(rand.NewSource(41))
	for range 2000 {
		root := anySchema(r)
		s := spread(r, textOf(root))
		if n, err := schema.Read(s); len(s) <= api.MaxText && (!reflect.DeepEqual(n, root) || err != nil) {
			t.Fatalf("%q: %+v, %v", s, n, err)
		}
	}
	for _, s := range []string{"required int a#1;", "\n\n required\nint\na\n#1\n;\n\n", "  required  int  a  #1  ;  ", "required int a#1 ;"} {
		if n, err := schema.Read(s); !reflect.DeepEqual(n, rootOf(leaf(1, "a"))) || err != nil {
			t.Errorf("%q: %+v, %v", s, n, err)
		}
	}
}

func faultAt(err error, at int, is error) bool {
	f, ok := err.(*api.Fault)
	return ok && f.At == at && f.Err == is
}

func TestP41Faults(t *testing.T) {
	five := strings.Repeat("required group a #1 {", 5)
	for _, c := range []struct {
		s  string
		at int
		is error
	}{
		// It ends too early.
		{"required", 8, api.ErrText}, {"required ", 9, api.ErrText}, {"required int", 12, api.ErrText}, {"required int a", 14, api.ErrText},
		{"required int a #1", 17, api.ErrText}, {"required int a #1 \n ", 20, api.ErrText}, {"required group a #1", 19, api.ErrText},
		{"required group a #1 {", 21, api.ErrText}, {"required group a #1 {  ", 23, api.ErrText}, {"required group a #1 { required int b #2;", 40, api.ErrText},
		// Words that cannot stand there.
		{"int a #1;", 0, api.ErrText}, {"root", 0, api.ErrText}, {"Required int a #1;", 0, api.ErrText}, {"requiredint a #1;", 0, api.ErrText}, {"require int a #1;", 0, api.ErrText},
		{"required required a #1;", 9, api.ErrText}, {"required text a #1;", 9, api.ErrText}, {"required Int a #1;", 9, api.ErrText}, {"required ints a #1;", 9, api.ErrText}, {"required in t a #1;", 9, api.ErrText},
		{"required int #1;", 13, api.ErrText}, {"required int ;", 13, api.ErrText}, {"required int { a #1;", 13, api.ErrText},
		{"required int a b #1;", 15, api.ErrText}, {"required int a ;", 15, api.ErrText}, {"required int a;", 14, api.ErrText}, {"required int a 1;", 15, api.ErrText}, {"required int a1 #1;", 14, api.ErrText},
		{"required int a #1 #2;", 18, api.ErrText}, {"required int a #1b;", 17, api.ErrText}, {"required int a #1 required", 18, api.ErrText}, {"required int a #1#2;", 17, api.ErrText},
		{"required int a #1 {", 18, api.ErrText}, {"required int a #1}", 17, api.ErrText},
		{"required group a #1;", 19, api.ErrText}, {"required group a #1 }", 20, api.ErrText}, {"required group a #1 {;}", 21, api.ErrText}, {"required group a #1 {{}", 21, api.ErrText},
		{"required int a #1; }", 19, api.ErrText}, {"required int a #1;;", 18, api.ErrText}, {"}", 0, api.ErrText}, {"{}", 0, api.ErrText}, {";", 0, api.ErrText}, {"#1", 0, api.ErrText},
		{"required group a #1 { required int b #2; } }", 43, api.ErrText}, {"required group a #1 { required int b #2; };", 42, api.ErrText},
		// IDs.
		{"required int a #;", 15, api.ErrText}, {"required int a # 1;", 15, api.ErrText}, {"required int a #0;", 15, api.ErrText}, {"required int a #01;", 15, api.ErrText}, {"required int a #0000;", 15, api.ErrText},
		{"required int a #12345;", 15, api.ErrText}, {"required int a #99999999999999999999;", 15, api.ErrText}, {"required int a #-1;", 15, api.ErrText}, {"required int a #+1;", 15, api.ErrText}, {"required int a #1_0;", 17, api.ErrText}, {"required int a ##1;", 15, api.ErrText}, {"required int a #1.0;", 17, api.ErrText},
		// Bytes with which no word begins.
		{"\trequired int a #1;", 0, api.ErrText}, {"required\tint a #1;", 8, api.ErrText}, {"required int a #1;\r\n", 18, api.ErrText}, {"required int a #1;\x00", 18, api.ErrText}, {"required int \xff #1;", 13, api.ErrText}, {"required int é #1;", 13, api.ErrText}, {"required int aé #1;", 14, api.ErrText}, {"required int a_b #1;", 14, api.ErrText}, {"//", 0, api.ErrText}, {"required int a #1; // a", 19, api.ErrText}, {"required int a #٣;", 15, api.ErrText},
		// Too deep, whatever stands behind; what stands ahead is told first.
		{five, 104, api.ErrBound}, {five + "}}}}}", 104, api.ErrBound}, {five + " ?", 104, api.ErrBound}, {five + "required int a #1;}}}}}", 104, api.ErrBound}, {five + five, 104, api.ErrBound},
		{"?" + five, 0, api.ErrText}, {"required int a #1; } " + five, 19, api.ErrText}, {five[:104] + ";", 104, api.ErrText}, {five[:104], 104, api.ErrText},
		{five[:84] + "required int a #1 {", 102, api.ErrText},
		{"required group a #1 {}" + five, 126, api.ErrBound},
		// Ahead of Valid's errors.
		{"required int thirteenlette #1; required int a", 45, api.ErrText}, {"required group a #1 {} ;", 23, api.ErrText}, {strings.Repeat("required int a #1;", 50) + "x", 900, api.ErrText},
	} {
		if n, err := schema.Read(c.s); !isNothing(n) || !faultAt(err, c.at, c.is) {
			t.Errorf("%q: %+v, %+v, not %v at %d", c.s, n, err, c.is, c.at)
		}
	}
}

func TestP41ValidsErrors(t *testing.T) {
	for _, c := range []struct {
		s   string
		err error
	}{
		{"", api.ErrShape}, {" \n", api.ErrShape}, {"required group a #1 { }", api.ErrShape}, {"required group a #1 {} required int B #2;", api.ErrShape},
		{"required int a #1; required int a #2;", api.ErrName}, {"required int a #1; required int b #1;", api.ErrName}, {"required int thirteenlette #1;", api.ErrName}, {"required int a #1001;", api.ErrName}, {"required int a #9999;", api.ErrName},
		// Big letters make a word, too, but no name.
		{"required int A #1;", api.ErrName}, {"required int aB #1;", api.ErrName},
		{textOf(rootOf(leavesFrom(1, 40)...)), api.ErrBound}, {strings.Repeat("required int a #1;", 400), api.ErrBound}, {strings.Repeat("required group a #1{}", 41), api.ErrBound},
	} {
		if n, err := schema.Read(c.s); !isNothing(n) || err != c.err {
			t.Errorf("%.60q: %+v, %v, not %v", c.s, n, err, c.err)
		}
	}
}

func TestP41MaxText(t *testing.T) {
	for _, s := range []string{"required int a #1;", smallText} {
		full := s + strings.Repeat(" ", api.MaxText-len(s))
		if _, err := schema.Read(full); err != nil {
			t.Errorf("%d bytes: %v", len(full), err)
		}
		for _, more := range []string{full + " ", " " + full, full + "?", strings.Repeat("?", api.MaxText+1), strings.Repeat("{", 1000000)} {
			if n, err := schema.Read(more); !isNothing(n) || err != api.ErrBound {
				t.Errorf("%d bytes: %+v, %v", len(more), n, err)
			}
		}
	}
	if _, err := schema.Read(strings.Repeat("\n", api.MaxText)); err != api.ErrShape {
		t.Error(err)
	}
	if _, err := schema.Read(strings.Repeat(" ", api.MaxText-1) + "?"); !faultAt(err, api.MaxText-1, api.ErrText) {
		t.Error(err)
	}
}

// readBy the chapter's words in another way: a machine that goes from word to word,
// with a stack of the groups that are open.
func readBy(s string) (api.Node, error) {
	if len(s) > 8000 {
		return api.Node{}, api.ErrBound
	}
	open := []*api.Node{{Name: "root", Rep: 1}}
	n := api.Node{}
	state := "rep"
	for _, at := range words.FindAllStringIndex(s, -1) {
		w := s[at[0]:at[1]]
		if w == " " || w == "\n" {
			continue
		}
		rep, isRep := map[string]int{"required": 1, "optional": 2, "repeated": 3}[w]
		kind, isKind := map[string]int{"group": 0, "bool": 1, "int": 2, "long": 3, "bytes": 4, "double": 5}[w]
		switch {
		case state == "rep" && isRep:
			n = api.Node{Rep: rep}
			state = "kind"
		case state == "rep" && w == "}" && len(open) > 1:
			shut := open[len(open)-1]
			open = open[:len(open)-1]
			open[len(open)-1].Sub = append(open[len(open)-1].Sub, *shut)
		case state == "kind" && isKind:
			n.Kind = kind
			state = "name"
		case state == "name" && isWordOfLetters(w):
			n.Name = w
			state = "id"
		case state == "id" && idWord.MatchString(w):
			n.ID, _ = strconv.Atoi(w[1:])
			state = "end"
		case state == "end" && w == ";" && n.Kind != api.Group:
			open[len(open)-1].Sub = append(open[len(open)-1].Sub, n)
			state = "rep"
		case state == "end" && w == "{" && n.Kind == api.Group:
			if len(open) == 5 {
				return api.Node{}, &api.Fault{At: at[0], Err: api.ErrBound}
			}
			group := n
			open = append(open, &group)
			state = "rep"
		default:
			return api.Node{}, &api.Fault{At: at[0], Err: api.ErrText}
		}
	}
	if state != "rep" || len(open) > 1 {
		return api.Node{}, &api.Fault{At: len(s), Err: api.ErrText}
	}
	if err := errorOf(*open[0]); err != nil {
		return api.Node{}, err
	}
	return *open[0], nil
}

// spoilText: bytes or words that come, go, or are others.
func spoilText(r *rand.Rand, s string) string {
	some := []string{" ", "\n", ";", "{", "}", "#", "#1", "#0", "#1000", "#1001", "0", "9", "a", "Z", "required", "group", "int", "double", "repeated", "\t", "\xff", "é", "?", "required int q #999;", "required group q #998 {"}
	at := r.Intn(len(s) + 1)
	to := min(len(s), at+r.Intn(4))
	switch r.Intn(5) {
	case 0:
		return s[:at] + s[to:]
	case 1:
		return s[:at]
	case 2:
		return s[at:]
	case 3:
		return s[:at] + some[r.Intn(len(some))] + s[to:]
	}
	return s[:at] + some[r.Intn(len(some))] + s[at:]
}

// told: an error's word and place.
func told(err error) string { return fmt.Sprintf("%T %+v", err, err) + place(err) }

func place(err error) string {
	if f, ok := err.(*api.Fault); ok {
		return strconv.Itoa(f.At)
	}
	return ""
}

func TestP41ByTheRule(t *testing.T) {
	r := rand.New(rand.NewSource(410))
	right, wrong := 0, 0
	for range 10000 {
		s := textOf(anySchema(r))
		if r.Intn(2) == 0 {
			s = spread(r, s)
		}
		for range r.Intn(3) {
			s = spoilText(r, s)
		}
		want, wantErr := readBy(s)
		if wantErr == nil {
			right++
		} else {
			wrong++
		}
		if n, err := schema.Read(s); !reflect.DeepEqual(n, want) || told(err) != told(wantErr) {
			t.Fatalf("%q: %+v, %v, not %+v, %v", s, n, told(err), want, told(wantErr))
		}
	}
	if right < 1000 || wrong < 1000 {
		t.Error(right, wrong)
	}
}

// Words one behind the other, as no schema has them.
func TestP41AnyWords(t *testing.T) {
	r := rand.New(rand.NewSource(411))
	some := []string{"required", "optional", "group", "int", "a", "b", "#1", "#2", "#", ";", "{", "}", " ", "\n", "x1", "A"}
	for range 10000 {
		var b strings.Builder
		for range r.Intn(14) {
			b.WriteString(some[r.Intn(len(some))] + strings.Repeat(" ", r.Intn(2)))
		}
		s := b.String()
		want, wantErr := readBy(s)
		if n, err := schema.Read(s); !reflect.DeepEqual(n, want) || told(err) != told(wantErr) {
			t.Fatalf("%q: %+v, %v, not %+v, %v", s, n, told(err), want, told(wantErr))
		}
	}
}
