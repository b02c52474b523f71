package evolve_test

import (
	"math"
	"math/rand"
	"reflect"
	"regexp"
	"slices"
	"strconv"
	"strings"

	"shredcol/api"
	"shredcol/data"
	"shredcol/schema"
)

// Edits told another way: nodes in one list of rows, edits taken apart by patterns,
// records changed edit by edit.

type row struct {
	id, around int
	name       string
	rep, kind  int
}

// rows of a schema: nodes of one group stand in their order, whatever lies between.
type rows struct {
	l    []row
	next int
}

var (
	repNames  = []string{"", "required", "optional", "repeated"}
	kindNames = []string{"group", "bool", "int", "long", "bytes", "double"}
	headForm  = regexp.MustCompile(`^(required|optional|repeated) (?:(bool|int|long|bytes|double) ([A-Za-z]+);|(group) ([A-Za-z]+) \{ )`)
	editForm  = regexp.MustCompile(`^(?:(add) (0|[1-9][0-9]{0,3}) ([^\n]+)|(drop|widen|loosen) (0|[1-9][0-9]{0,3})|(rename) (0|[1-9][0-9]{0,3}) ([^ \n]+)|(move) (0|[1-9][0-9]{0,3}) (0|[1-9][0-9]{0,3}))$`)
)

func (m *rows) sub(id int) []api.Node {
	var l []api.Node
	for _, x := range m.l {
		if x.around == id {
			l = append(l, api.Node{ID: x.id, Name: x.name, Rep: x.rep, Kind: x.kind, Sub: m.sub(x.id)})
		}
	}
	return l
}

func (m *rows) root() api.Node { return rootOf(m.sub(0)...) }

func (m *rows) find(id int) int {
	return slices.IndexFunc(m.l, func(x row) bool { return x.id == id })
}

// others of that row's group: where they stand in the list.
func (m *rows) others(at int) []int {
	var l []int
	for i, x := range m.l {
		if x.around == m.l[at].around && i != at {
			l = append(l, i)
		}
	}
	return l
}

// takeNode from the beginning of a text: its rows, and the rest.
func takeNode(s string, around int, next *int) (l []row, rest string, is bool) {
	m := headForm.FindStringSubmatch(s)
	if m == nil {
		return nil, "", false
	}
	x := row{id: *next, around: around, name: m[3] + m[5], rep: slices.Index(repNames, m[1]), kind: slices.Index(kindNames, m[2]+m[4])}
	*next++
	l, s = []row{x}, s[len(m[0]):]
	for x.kind == api.Group && !strings.HasPrefix(s, "}") {
		var in []row
		if in, s, is = takeNode(s, x.id, next); !is {
			return nil, "", false
		}
		if s, is = strings.CutPrefix(s, " "); !is {
			return nil, "", false
		}
		l = append(l, in...)
	}
	if x.kind == api.Group {
		s = s[1:]
	}
	return l, s, true
}

// parted: the words of an edit that has the right form; of add, its rows.
func (m *rows) parted(line string) (words []string, l []row, is bool) {
	for i, x := range editForm.FindStringSubmatch(line) {
		if i > 0 && x != "" {
			words = append(words, x)
		}
	}
	if len(words) == 0 || words[0] != "add" {
		return words, nil, len(words) > 0
	}
	next, around := m.next, number(words[1])
	l, rest, is := takeNode(words[2], around, &next)
	if !is || rest != "" {
		return nil, nil, false
	}
	alone := rows{l: slices.Clone(l)}
	alone.l[0].around = 0
	return words, l, schema.Valid(alone.root()) == nil
}

func number(s string) int {
	n, err := strconv.Atoi(s)
	if err != nil {
		panic(s)
	}
	return n
}

// edit: one more.
func (m *rows) edit(line string) error {
	words, l, is := m.parted(line)
	if !is {
		return api.ErrText
	}
	id := number(words[1])
	at := m.find(id)
	switch {
	case words[0] == "add" && id > 0 && at >= 0 && m.l[at].kind != api.Group:
		return api.ErrKind
	case at < 0 && (words[0] != "add" || id > 0):
		return api.ErrNone
	}
	switch words[0] {
	case "add":
		m.l = append(m.l, l...)
		m.next += len(l)
	case "drop":
		m.drop(id)
	case "rename":
		if !regexp.MustCompile(`^[a-z]{1,12}$`).MatchString(words[2]) {
			return api.ErrName
		}
		m.l[at].name = words[2]
	case "move":
		return m.move(at, number(words[2]))
	case "widen":
		if m.l[at].kind != api.Int {
			return api.ErrKind
		}
		m.l[at].kind = api.Long
	case "loosen":
		if m.l[at].rep != api.Required {
			return api.ErrKind
		}
		m.l[at].rep = api.Optional
	}
	if len(m.l) == 0 {
		return nil
	}
	return schema.Valid(m.root())
}

// drop what is to go, and then, again and again, what stands in nothing or has nothing
// in it.
func (m *rows) drop(id int) {
	m.l = slices.Delete(m.l, m.find(id), m.find(id)+1)
	for many := -1; many != len(m.l); {
		many = len(m.l)
		m.l = slices.DeleteFunc(slices.Clone(m.l), func(x row) bool {
			return x.around > 0 && m.find(x.around) < 0 || x.kind == api.Group && len(m.sub(x.id)) == 0
		})
	}
}

func (m *rows) move(at, to int) error {
	others := append(m.others(at), len(m.l))
	if to >= len(others) {
		return api.ErrBound
	}
	x, before := m.l[at], others[to]
	m.l[at].id = -1
	m.l = slices.Insert(m.l, before, x)
	m.l = slices.DeleteFunc(m.l, func(x row) bool { return x.id == -1 })
	return nil
}

// replayed: the rows after all edits; the first that cannot be.
func replayed(edits []string) (m rows, at int, err error) {
	m.next = 1
	for i, line := range edits {
		if err := m.edit(line); err != nil {
			return m, i, err
		}
	}
	return m, -1, nil
}

func rootOf(sub ...api.Node) api.Node {
	return api.Node{Name: "root", Rep: api.Required, Kind: api.Group, Sub: sub}
}

func schemaOf(s string) api.Node {
	root, err := schema.Read(s)
	if err != nil {
		panic(s + ": " + err.Error())
	}
	return root
}

func recordOf(root api.Node, s string) api.Datum {
	d, err := data.Read(root, s)
	if err != nil {
		panic(s + ": " + err.Error())
	}
	return d
}

func none() api.Datum { return api.Datum{None: true} }

func fields(l ...api.Datum) api.Datum { return api.Datum{F: l} }

func list(l ...api.Datum) api.Datum { return api.Datum{L: l} }

func value(kind int, n int64) api.Datum { return api.Datum{V: api.Value{Kind: kind, N: n}} }

func isNothing(d api.Datum) bool {
	return !d.None && d.V == api.Value{} && len(d.L) == 0 && len(d.F) == 0
}

func isNoNode(n api.Node) bool { return reflect.DeepEqual(n, api.Node{}) }

// anyNode as an edit has it, with at most so many nodes, so deep.
func anyNode(r *rand.Rand, name string, most *int, deep int) string {
	*most--
	rep := repNames[1+r.Intn(3)]
	if deep == 0 || *most <= 0 || r.Intn(3) > 0 {
		return rep + " " + kindNames[1+r.Intn(5)] + " " + name + ";"
	}
	s := rep + " group " + name + " { "
	for i := 0; i == 0 || *most > 0 && r.Intn(3) > 0; i++ {
		s += anyNode(r, string(rune('a'+i%26))+strings.Repeat("x", i/26), most, deep-1) + " "
	}
	return s + "}"
}

// anyEdit: of that schema, often one that can be.
func anyEdit(r *rand.Rand, m *rows) string {
	id := "0"
	if len(m.l) > 0 {
		id = strconv.Itoa(m.l[r.Intn(len(m.l))].id)
	}
	if r.Intn(30) == 0 {
		id = strconv.Itoa(r.Intn(m.next + 2))
	}
	name := string([]byte{'k' + byte(r.Intn(16)), 'a' + byte(r.Intn(26))})
	if r.Intn(15) == 0 {
		name = []string{"a", "b", "X", "thirteenlette", "twelveletter", "a1", "é", "#", "{", "a;", "group"}[r.Intn(11)]
	}
	switch r.Intn(9) {
	case 0:
		return "drop " + id
	case 1:
		return "rename " + id + " " + name
	case 2:
		return "move " + id + " " + strconv.Itoa(r.Intn(4))
	case 3:
		return "widen " + id
	case 4, 5:
		return "loosen " + id
	}
	if at := m.find(number(id)); at < 0 || m.l[at].kind != api.Group && r.Intn(10) > 0 {
		id = "0"
	}
	most := 1 + r.Intn(5)
	if r.Intn(20) == 0 {
		most = 45
	}
	return "add " + id + " " + anyNode(r, name, &most, r.Intn(6))
}

// anyEdits that all can be.
func anyEdits(r *rand.Rand, many int) []string {
	m := rows{next: 1}
	var edits []string
	for len(edits) < many {
		line := anyEdit(r, &m)
		before := rows{slices.Clone(m.l), m.next}
		if m.edit(line) != nil {
			m = before
			continue
		}
		edits = append(edits, line)
	}
	return edits
}

// spoilt: one byte or word of a line changed, which may leave it right.
func spoilt(r *rand.Rand, s string) string {
	const some = " \n;{}#0a1-+\x00\t_"
	at, other := r.Intn(len(s)), string(some[r.Intn(len(some))])
	switch r.Intn(6) {
	case 0:
		return s[:at] + s[at+1:]
	case 1:
		return s[:at] + other + s[at:]
	case 2:
		return s[:at] + other + s[at+1:]
	}
	words := strings.Split(s, " ")
	i := r.Intn(len(words))
	switch r.Intn(4) {
	case 0:
		words = slices.Delete(words, i, i+1)
	case 1:
		words = slices.Insert(words, i, words[r.Intn(len(words))])
	case 2:
		words[i] = words[r.Intn(len(words))]
	case 3:
		words[i] = []string{"", "0", "00", "01", "12345", "9999", "1000", "add", "drop", "group", "int", "{", "}", ";", "#1", "a #1;", "\n"}[r.Intn(17)]
	}
	return strings.Join(words, " ")
}

func anyValue(r *rand.Rand, kind int) api.Value {
	v := api.Value{Kind: kind}
	switch kind {
	case api.Bool:
		v.N = int64(r.Intn(2))
	case api.Int:
		v.N = []int64{0, 1, -1, 77, math.MaxInt32, math.MinInt32}[r.Intn(6)]
	case api.Long, api.Double:
		v.N = []int64{0, 1, -1, 77, math.MaxInt64, math.MinInt64}[r.Intn(6)]
	case api.Bytes:
		v.S = []string{"", "a", "\x00\xff", strings.Repeat("x", api.MaxBytes)}[r.Intn(4)]
	}
	return v
}

// anyDatum that is right for the node; lists are full now and then where they stand
// not deep.
func anyDatum(r *rand.Rand, n api.Node, deep int) api.Datum {
	if n.Rep == api.Optional && r.Intn(3) == 0 {
		return none()
	}
	var d api.Datum
	if n.Rep == api.Repeated {
		many := r.Intn(4)
		if deep < 3 && r.Intn(30) == 0 {
			many = api.MaxList
		}
		n.Rep = api.Required
		for range many {
			d.L = append(d.L, anyDatum(r, n, deep+1))
		}
		return d
	}
	if n.Kind != api.Group {
		return api.Datum{V: anyValue(r, n.Kind)}
	}
	for _, in := range n.Sub {
		d.F = append(d.F, anyDatum(r, in, deep+1))
	}
	return d
}

// fresh: what there is of a node that comes in.
func fresh(n api.Node) api.Datum {
	return map[int]func() api.Datum{
		api.Optional: none,
		api.Repeated: func() api.Datum { return list() },
		api.Required: func() (d api.Datum) {
			d.V.Kind = n.Kind
			for _, in := range n.Sub {
				d.F = append(d.F, fresh(in))
			}
			return d
		},
	}[n.Rep]()
}

// eachOf that node's data in the record of root, wherever they stand, is changed.
func eachOf(root api.Node, d api.Datum, id int, change func(n api.Node, d api.Datum) api.Datum) api.Datum {
	var at func(n api.Node, d api.Datum) api.Datum
	at = func(n api.Node, d api.Datum) api.Datum {
		if n.ID == id {
			return change(n, d)
		}
		one := n
		one.Rep = api.Required
		l, f := slices.Clone(d.L), slices.Clone(d.F)
		for i := range l {
			l[i] = at(one, l[i])
		}
		for i := range f {
			f[i] = at(n.Sub[i], f[i])
		}
		return api.Datum{None: d.None, V: d.V, L: l, F: f}
	}
	return at(root, d)
}

// eachGroup: the fields of each group of that ID that is there are changed.
func eachGroup(root api.Node, d api.Datum, id int, change func(f []api.Datum) []api.Datum) api.Datum {
	return eachOf(root, d, id, func(n api.Node, d api.Datum) api.Datum {
		if n.Rep != api.Repeated && !d.None {
			d.F = change(slices.Clone(d.F))
		}
		d.L = slices.Clone(d.L)
		for i := range d.L {
			d.L[i].F = change(slices.Clone(d.L[i].F))
		}
		return d
	})
}

// carried by one edit: the record of m as it is behind it. What came in since the record
// was made is, loosened, as if it had come in so.
func carried(m rows, line string, d api.Datum, cameIn func(id int) bool) api.Datum {
	words, l, _ := m.parted(line)
	root, id := m.root(), number(words[1])
	around, place := 0, 0
	if at := m.find(id); at >= 0 {
		around = m.l[at].around
		for _, i := range m.others(at) {
			if i < at {
				place++
			}
		}
	}
	switch words[0] {
	case "add":
		alone := rows{l: slices.Clone(l)}
		alone.l[0].around = 0
		return eachGroup(root, d, id, func(f []api.Datum) []api.Datum { return append(f, fresh(alone.root().Sub[0])) })
	case "drop":
		if len(m.sub(around)) == 1 && around > 0 {
			return carried(m, "drop "+strconv.Itoa(around), d, cameIn)
		}
		return eachGroup(root, d, around, func(f []api.Datum) []api.Datum { return slices.Delete(f, place, place+1) })
	case "move":
		return eachGroup(root, d, around, func(f []api.Datum) []api.Datum {
			x := f[place]
			return slices.Insert(slices.Delete(f, place, place+1), number(words[2]), x)
		})
	case "widen":
		return eachOf(root, d, id, func(_ api.Node, d api.Datum) api.Datum {
			if d.V.Kind == api.Int {
				d.V.Kind = api.Long
			}
			d.L = slices.Clone(d.L)
			for i := range d.L {
				d.L[i].V.Kind = api.Long
			}
			return d
		})
	case "loosen":
		if cameIn(id) {
			return eachOf(root, d, id, func(api.Node, api.Datum) api.Datum { return none() })
		}
	}
	return d
}
