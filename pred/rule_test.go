package pred_test

import (
	"fmt"
	"math"
	"math/big"
	"math/rand"
	"regexp"
	"slices"
	"strconv"
	"strings"

	"shredcol/api"
	"shredcol/enc"
	"shredcol/pred"
	"shredcol/schema"
)

// Predicates told another way: words by patterns, put together on two stacks; values
// of a record by going through it with the schema.

var hows = []string{"<", "<=", "=", "!=", ">", ">="}

// small: leaves of each kind, of each depth of lists.
const smallText = "required int a #1; optional group b #2 { repeated group c #3 { optional bytes d #4; required bool e #5; repeated double f #6; } } optional long g #1000; repeated int h #12;"

func schemaOf(s string) api.Node {
	n, err := schema.Read(s)
	if err != nil {
		panic(err)
	}
	return n
}

func small() api.Node { return schemaOf(smallText) }

func whole(n int64) api.Value { return api.Value{Kind: api.Int, N: n} }

func text(s string) api.Value { return api.Value{Kind: api.Bytes, S: s} }

func truth(n int64) api.Value { return api.Value{Kind: api.Bool, N: n} }

func long(n int64) api.Value { return api.Value{Kind: api.Long, N: n} }

func double(f float64) api.Value {
	return api.Value{Kind: api.Double, N: int64(math.Float64bits(f))}
}

func term(id int, how string, v api.Value) pred.Pred {
	return pred.Pred{Op: "term", ID: id, How: how, V: v}
}

func null(id int) pred.Pred { return pred.Pred{Op: "null", ID: id} }

func not(p pred.Pred) pred.Pred { return pred.Pred{Op: "not", L: []pred.Pred{p}} }

func and(a, b pred.Pred) pred.Pred { return pred.Pred{Op: "and", L: []pred.Pred{a, b}} }

func or(a, b pred.Pred) pred.Pred { return pred.Pred{Op: "or", L: []pred.Pred{a, b}} }

func leavesOf(root api.Node) []schema.Leaf {
	l, err := schema.Leaves(root)
	if err != nil {
		panic(err)
	}
	return l
}

func kindOf(root api.Node, id int) int {
	for _, leaf := range leavesOf(root) {
		if leaf.ID == id {
			return leaf.Kind
		}
	}
	return 0
}

// valueText by the words of P51.
func valueText(v api.Value) string {
	switch v.Kind {
	case api.Bool:
		return fmt.Sprint(v.N == 1)
	case api.Double:
		return fmt.Sprintf("x%016x", uint64(v.N))
	case api.Int, api.Long:
		return fmt.Sprint(v.N)
	}
	var s strings.Builder
	for _, b := range []byte(v.S) {
		if b < 32 || b > 126 || b == '"' || b == '\\' {
			fmt.Fprintf(&s, "\\%02x", b)
		} else {
			s.WriteByte(b)
		}
	}
	return `"` + s.String() + `"`
}

var wordForm = regexp.MustCompile(`^(?:#([1-9][0-9]{0,3}) (?:(is null)|(<|<=|=|!=|>|>=) (true|false|-?[0-9]+|x[0-9a-f]{16}|"[^"]*"))|(!)|(\()|(\))|( & )|( \| ))`)

// valueOf a text, if it is one of that kind.
func valueOf(kind int, s string) (api.Value, bool) {
	v := api.Value{Kind: kind}
	switch {
	case kind == api.Bool && (s == "true" || s == "false"):
		v.N = int64(len("false") - len(s))
	case kind == api.Double && s[0] == 'x':
		bits, _ := strconv.ParseUint(s[1:], 16, 64)
		v.N = int64(bits)
	case (kind == api.Int || kind == api.Long) && strings.Contains("-0123456789", s[:1]):
		n, _ := new(big.Int).SetString(s, 10)
		if v.N = n.Int64(); !n.IsInt64() {
			return v, false
		}
	case kind == api.Bytes && s[0] == '"':
		v.S = regexp.MustCompile(`(?s)\\..`).ReplaceAllStringFunc(s[1:len(s)-1], func(x string) string {
			n, err := strconv.ParseUint(x[1:], 16, 8)
			if err != nil {
				return x
			}
			return string([]byte{byte(n)})
		})
	default:
		return v, false
	}
	return v, enc.IsValue(v) && valueText(v) == s
}

// stacks of an operator-precedence reader.
type stacks struct {
	out   []pred.Pred
	marks []string
	deep  int
}

var strength = map[string]int{"(": 0, " | ": 1, " & ": 2, "!": 3}

// top: how strong the last mark is.
func (k *stacks) top() int {
	if len(k.marks) == 0 {
		return -1
	}
	return strength[k.marks[len(k.marks)-1]]
}

func (k *stacks) pop() {
	mark := k.marks[len(k.marks)-1]
	k.marks = k.marks[:len(k.marks)-1]
	n := len(k.out)
	switch mark {
	case "!":
		k.out[n-1] = not(k.out[n-1])
	case " & ":
		k.out = append(k.out[:n-2:n-2], and(k.out[n-2], k.out[n-1]))
	case " | ":
		k.out = append(k.out[:n-2:n-2], or(k.out[n-2], k.out[n-1]))
	}
}

// readByTheRule: the predicate, and how deep something stands in its marks.
func readByTheRule(root api.Node, s string) (p pred.Pred, deep int, is bool) {
	var k stacks
	wanted := true // a term, or what may stand ahead of it
	for s != "" {
		m := wordForm.FindStringSubmatch(s)
		if m == nil {
			return p, 0, false
		}
		s = s[len(m[0]):]
		opens := m[5] != "" || m[6] != ""
		if wanted != (m[1] != "" || opens) {
			return p, 0, false
		}
		switch {
		case opens:
			k.marks = append(k.marks, m[5]+m[6])
		case m[1] != "":
			one, is := k.term(root, m)
			if !is {
				return p, 0, false
			}
			k.out, wanted = append(k.out, one), false
		case m[7] != "":
			for k.top() > 0 {
				k.pop()
			}
			if len(k.marks) == 0 {
				return p, 0, false
			}
			k.pop()
		default:
			mark := m[8] + m[9]
			for k.top() >= strength[mark] {
				k.pop()
			}
			k.marks, wanted = append(k.marks, mark), true
		}
	}
	if wanted || slices.Contains(k.marks, "(") {
		return p, 0, false
	}
	for len(k.marks) > 0 {
		k.pop()
	}
	return k.out[0], k.deep, true
}

func (k *stacks) term(root api.Node, m []string) (pred.Pred, bool) {
	id, _ := strconv.Atoi(m[1])
	kind := kindOf(root, id)
	around := slices.DeleteFunc(slices.Clone(k.marks), func(mark string) bool { return mark[0] == ' ' })
	k.deep = max(k.deep, len(around))
	if m[2] != "" {
		return null(id), kind != 0
	}
	v, is := valueOf(kind, m[4])
	return term(id, m[3], v), is
}

// anyValue: mostly of few, so that they meet each other.
func anyValue(r *rand.Rand, kind int) api.Value {
	v := api.Value{Kind: kind}
	switch kind {
	case api.Bool:
		v.N = int64(r.Intn(2))
	case api.Bytes:
		v.S = []string{"", "a", "b", "ab", "\x00", "\xff", `"`, `\`, ") & (", " | ", "#1 = 1", strings.Repeat("z", 100)}[r.Intn(12)]
	default:
		v.N = []int64{-2, -1, 0, 1, 2, math.MaxInt32, math.MinInt32}[r.Intn(7)]
		if kind != api.Int && r.Intn(3) == 0 {
			v.N = []int64{math.MaxInt64, math.MinInt64, math.MinInt64 + 1}[r.Intn(3)]
		}
	}
	return v
}

// anyPred of the schema's leaves, of so many terms; it may be too deep for a text.
func anyPred(r *rand.Rand, root api.Node, terms int) pred.Pred {
	if r.Intn(4) == 0 {
		return not(anyPred(r, root, terms))
	}
	if terms > 1 {
		first := 1 + r.Intn(terms-1)
		a, b := anyPred(r, root, first), anyPred(r, root, terms-first)
		if r.Intn(2) == 0 {
			return and(a, b)
		}
		return or(a, b)
	}
	l := leavesOf(root)
	leaf := l[r.Intn(len(l))]
	if r.Intn(4) == 0 {
		return null(leaf.ID)
	}
	return term(leaf.ID, hows[r.Intn(len(hows))], anyValue(r, leaf.Kind))
}

// spelt with brackets around any part that needs them, and around others by chance; and
// how deep something stands.
func spelt(p pred.Pred, chance func() bool) (s string, deep int) {
	part := func(q pred.Pred, ops string) string {
		s, d := spelt(q, chance)
		if strings.Contains(ops, q.Op) {
			s, d = "("+s+")", d+1
		}
		if p.Op == "not" {
			d++
		}
		deep = max(deep, d)
		return s
	}
	switch p.Op {
	case "term":
		s = "#" + strconv.Itoa(p.ID) + " " + p.How + " " + valueText(p.V)
	case "null":
		s = "#" + strconv.Itoa(p.ID) + " is null"
	case "not":
		s = "!" + part(p.L[0], "and or")
	case "and":
		s = part(p.L[0], "or") + " & " + part(p.L[1], "and or")
	case "or":
		s = part(p.L[0], "") + " | " + part(p.L[1], "or")
	}
	for chance() {
		s, deep = "("+s+")", deep+1
	}
	return s, deep
}

func never() bool { return false }

// anySchema: right, with leaves of all kinds.
func anySchema(r *rand.Rand, left int) api.Node {
	ids := r.Perm(api.MaxID)
	var nodes func(deep int) []api.Node
	nodes = func(deep int) []api.Node {
		var l []api.Node
		for left > 0 && (len(l) == 0 || r.Intn(3) > 0) {
			left--
			n := api.Node{ID: ids[left] + 1, Name: string(rune('a' + len(l)%26)), Rep: 1 + r.Intn(3), Kind: 1 + r.Intn(5)}
			if left > 0 && deep < api.MaxDeep && r.Intn(2) == 0 {
				n.Kind, n.Sub = api.Group, nodes(deep+1)
			}
			l = append(l, n)
		}
		return l
	}
	return api.Node{Name: "root", Rep: api.Required, Kind: api.Group, Sub: nodes(2)}
}

func anyDatum(r *rand.Rand, n api.Node) api.Datum {
	var d api.Datum
	switch {
	case n.Rep == api.Optional && r.Intn(3) == 0:
		d.None = true
	case n.Rep == api.Repeated:
		n.Rep = api.Required
		for range r.Intn(3) {
			d.L = append(d.L, anyDatum(r, n))
		}
	case n.Kind == api.Group:
		for _, in := range n.Sub {
			d.F = append(d.F, anyDatum(r, in))
		}
	default:
		d.V = anyValue(r, n.Kind)
	}
	return d
}

// valuesIn a record: of each leaf, those that are there.
func valuesIn(n api.Node, d api.Datum, into map[int][]api.Value) {
	switch {
	case d.None:
	case n.Rep == api.Repeated:
		n.Rep = api.Required
		for _, element := range d.L {
			valuesIn(n, element, into)
		}
	case n.Kind == api.Group:
		for i, in := range n.Sub {
			valuesIn(in, d.F[i], into)
		}
	default:
		into[n.ID] = append(into[n.ID], d.V)
	}
}

// stands: the words themselves, by where a is seen from b.
func stands(a api.Value, how string, b api.Value) bool {
	side := "="
	if enc.Less(a, b) {
		side = "<"
	} else if enc.Less(b, a) {
		side = ">"
	}
	if how == "!=" {
		return side != "="
	}
	return strings.Contains(how, side)
}

// satisfies by the words of P140.
func satisfies(p pred.Pred, values map[int][]api.Value) bool {
	switch p.Op {
	case "term":
		some := false
		for _, v := range values[p.ID] {
			some = some || stands(v, p.How, p.V)
		}
		return some
	case "null":
		return len(values[p.ID]) == 0
	}
	many := 0
	for _, q := range p.L {
		if satisfies(q, values) {
			many++
		}
	}
	return map[string]bool{"not": many == 0, "and": many == 2, "or": many > 0}[p.Op]
}
