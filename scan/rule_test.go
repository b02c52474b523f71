package scan_test

import (
	"fmt"
	"hash/crc32"
	"math"
	"math/rand"
	"slices"
	"strings"

	"shredcol/api"
	"shredcol/chunk"
	"shredcol/data"
	"shredcol/enc"
	"shredcol/evolve"
	"shredcol/file"
	"shredcol/pred"
	"shredcol/scan"
	"shredcol/schema"
	"shredcol/shred"
	"shredcol/stats"
	"shredcol/wire"
)

// Scans told another way: records carried, asked and cut field by field, with nodes in
// rows by their IDs; what is needed by the rows of both schemas.

// must have no error.
func must[T any](x T, err error) T {
	if err != nil {
		panic(err)
	}
	return x
}

func schemaOf(s string) api.Node { return must(schema.Read(s)) }

func replayed(edits ...string) api.Node {
	root, _, err := evolve.Replay(edits)
	return must(root, err)
}

func recordsOf(root api.Node, texts ...string) []api.Datum {
	var l []api.Datum
	for _, s := range texts {
		l = append(l, must(data.Read(root, s)))
	}
	return l
}

func fileOf(root api.Node, rows, most int, texts ...string) string {
	return must(file.Write(root, recordsOf(root, texts...), rows, most))
}

// told: a nil list and an empty one are one thing.
func told(l []api.Datum) string { return fmt.Sprintf("%+v", l) }

// textsOf records under a projection of To.
func textsOf(a scan.Ask, l []api.Datum) string {
	part := must(schema.Project(a.To, a.IDs))
	var texts []string
	for _, d := range l {
		texts = append(texts, must(data.Text(part, d)))
	}
	return strings.Join(texts, " ")
}

// row of a schema: a node, and the nodes around it, the root's ID first.
type row struct {
	api.Node
	around []int
}

func rowsOf(n api.Node, around []int) []row {
	l := []row{{n, around}}
	for _, in := range n.Sub {
		l = append(l, rowsOf(in, slices.Concat(around, []int{n.ID}))...)
	}
	return l
}

func rowAt(l []row, id int) int {
	return slices.IndexFunc(l, func(x row) bool { return x.ID == id })
}

// asked: whether the row is under the projection by itself: one of ids, or in one.
func (x row) asked(ids []int) bool {
	return slices.ContainsFunc(ids, func(id int) bool { return id == x.ID || slices.Contains(x.around, id) })
}

// neededByTheRule: leaves of the file, in the file's order.
func neededByTheRule(from, to api.Node, ids, inWhere []int) []int {
	file, now := rowsOf(from, nil), rowsOf(to, nil)
	var needed []int
	for _, x := range now {
		if x.Kind == api.Group || !x.asked(ids) && !slices.Contains(inWhere, x.ID) {
			continue
		}
		path := slices.Concat(x.around, []int{x.ID})
		for rowAt(file, path[len(path)-1]) < 0 {
			path = path[:len(path)-1]
		}
		nearest := path[len(path)-1]
		first := slices.IndexFunc(file, func(y row) bool { return y.Kind != api.Group && y.asked([]int{nearest}) })
		needed = append(needed, file[first].ID)
	}
	var l []int
	for _, y := range file {
		if slices.Contains(needed, y.ID) {
			l = append(l, y.ID)
		}
	}
	return l
}

// shown of a record of `was`: as one of `now`, of that only what stays.
func shown(was, now api.Node, d *api.Datum, stays func(api.Node) bool) api.Datum {
	list, optional := now.Rep == api.Repeated, now.Rep == api.Optional
	now.Rep = api.Required
	var out api.Datum
	switch {
	case list && d != nil:
		was.Rep = api.Required
		for _, element := range d.L {
			out.L = append(out.L, shown(was, now, &element, stays))
		}
	case list:
	case optional && (d == nil || d.None):
		out.None = true
	case now.Kind != api.Group:
		out.V.Kind = now.Kind
		if d != nil {
			out.V.N, out.V.S = d.V.N, d.V.S
		}
	default:
		for _, in := range now.Sub {
			if !stays(in) {
				continue
			}
			at := slices.IndexFunc(was.Sub, func(n api.Node) bool { return n.ID == in.ID })
			if d == nil || at < 0 {
				out.F = append(out.F, shown(api.Node{}, in, nil, stays))
			} else {
				out.F = append(out.F, shown(was.Sub[at], in, &d.F[at], stays))
			}
		}
	}
	return out
}

// answerByTheRule: the records, carried, that satisfy p (nil: all), under the projection.
func answerByTheRule(from, to api.Node, l []api.Datum, ids []int, p *pred.Pred) []api.Datum {
	now := rowsOf(to, nil)
	stay := map[int]bool{}
	for _, x := range now {
		if x.asked(ids) {
			for _, id := range append(slices.Clone(x.around), x.ID) {
				stay[id] = true
			}
		}
	}
	var out []api.Datum
	for _, d := range l {
		whole := shown(from, to, &d, func(api.Node) bool { return true })
		values := map[int][]api.Value{}
		valuesIn(to, whole, values)
		if p == nil || satisfies(*p, values) {
			out = append(out, shown(from, to, &d, func(n api.Node) bool { return stay[n.ID] }))
		}
	}
	return out
}

// valuesIn a record: of each leaf, those that are there.
func valuesIn(n api.Node, d api.Datum, into map[int][]api.Value) {
	switch {
	case d.None:
	case n.Rep == api.Repeated:
		n.Rep = api.Required
		for _, element := range d.L {
			valuesIn(n, element, into)
		}
	case n.Kind == api.Group:
		for i, in := range n.Sub {
			valuesIn(in, d.F[i], into)
		}
	default:
		into[n.ID] = append(into[n.ID], d.V)
	}
}

// stands: the words themselves, by where a is seen from b.
func stands(a api.Value, how string, b api.Value) bool {
	side := "="
	if enc.Less(a, b) {
		side = "<"
	} else if enc.Less(b, a) {
		side = ">"
	}
	if how == "!=" {
		return side != "="
	}
	return strings.Contains(how, side)
}

// satisfies by the words of P140.
func satisfies(p pred.Pred, values map[int][]api.Value) bool {
	switch p.Op {
	case "term":
		return slices.ContainsFunc(values[p.ID], func(v api.Value) bool { return stands(v, p.How, p.V) })
	case "null":
		return len(values[p.ID]) == 0
	}
	many := 0
	for _, q := range p.L {
		if satisfies(q, values) {
			many++
		}
	}
	return map[string]bool{"not": many == 0, "and": many == 2, "or": many > 0}[p.Op]
}

// leavesIn a predicate.
func leavesIn(p *pred.Pred) []int {
	if p == nil {
		return nil
	}
	if len(p.L) == 0 {
		return []int{p.ID}
	}
	var ids []int
	for i := range p.L {
		ids = append(ids, leavesIn(&p.L[i])...)
	}
	return ids
}

// knownByTheRule of a group's records, as To has it: of leaves that the file has alone.
func knownByTheRule(from, to api.Node, l []api.Datum) []pred.Known {
	now := rowsOf(to, nil)
	cols := must(shred.Shred(from, l))
	var known []pred.Known
	for i, leaf := range must(schema.Leaves(from)) {
		at := rowAt(now, leaf.ID)
		if at < 0 {
			continue
		}
		s := must(stats.Of(leaf, cols[i]))
		if s.Has {
			s.Min.Kind, s.Max.Kind = now[at].Kind, now[at].Kind
		}
		known = append(known, pred.Known{ID: leaf.ID, Stats: s})
	}
	return known
}

// spotOf a leaf's chunk in a group.
func spotOf(f file.Footer, group, id int) (schema.Leaf, file.Spot) {
	leaves := must(schema.Leaves(f.Root))
	place := slices.IndexFunc(leaves, func(leaf schema.Leaf) bool { return leaf.ID == id })
	return leaves[place], f.Groups[group].Chunks[place]
}

func pagesOf(s string, f file.Footer, group, id int) []chunk.Mark {
	leaf, spot := spotOf(f, group, id)
	return must(chunk.Marks(leaf, s[spot.At:spot.At+spot.Len]))
}

// spoilt: another text of the same length in that place.
func spoilt(s string, at, size int) string {
	return s[:at] + strings.Repeat("\xee", size) + s[at+size:]
}

func spoiltChunk(s string, f file.Footer, group, id int) string {
	_, spot := spotOf(f, group, id)
	return spoilt(s, spot.At, spot.Len)
}

// hollow: the pages of that chunk with nothing that could be read behind their stats, of
// the same length, with the right sums.
func hollow(s string, f file.Footer, group, id int) string {
	_, spot := spotOf(f, group, id)
	for _, m := range pagesOf(s, f, group, id) {
		at, end := spot.At+m.At, spot.At+m.At+m.Len
		_, size, err := wire.ReadUvarint(s[at+1:])
		body := at + 1 + size + 4
		_, used, bad := stats.Read(s[body:end])
		if err != nil || bad != nil {
			panic("no page")
		}
		s = spoilt(s, body+used, end-body-used)
		s = s[:body-4] + sumOf(s[body:end]) + s[body:]
	}
	return s
}

func sumOf(s string) string { return must(wire.Fixed(uint64(crc32.ChecksumIEEE([]byte(s))), 4)) }

// builtFile of a schema's text and groups, of each the records that it tells, and chunks.
type builtGroup struct {
	records int
	chunks  []string
}

func builtFile(text string, groups ...builtGroup) string {
	body, parts := "SHC1", ""
	for _, g := range groups {
		parts += wire.Uvarint(uint64(g.records))
		for _, c := range g.chunks {
			parts += wire.Uvarint(uint64(len(body))) + wire.Uvarint(uint64(len(c)))
			body += c
		}
	}
	footer := wire.Uvarint(1) + wire.Text(text) + wire.Uvarint(2) + wire.Text(parts)
	return body + footer + must(wire.Fixed(uint64(len(footer)), 4)) + sumOf(footer) + "SHC1"
}

// anyValue: mostly of few, so that they meet each other.
func anyValue(r *rand.Rand, kind int) api.Value {
	v := api.Value{Kind: kind}
	switch kind {
	case api.Bool:
		v.N = int64(r.Intn(2))
	case api.Bytes:
		v.S = []string{"", "a", "b", "ab", "\x00", "\xff", `"`}[r.Intn(7)]
	default:
		v.N = []int64{-2, -1, 0, 1, 2, 3, math.MaxInt32, math.MinInt32}[r.Intn(8)]
		if kind != api.Int && r.Intn(4) == 0 {
			v.N = []int64{math.MaxInt64, math.MinInt64, math.MaxInt32 + 1}[r.Intn(3)]
		}
	}
	return v
}

// anyDatum of the node: spread is a number that its values are near to, mostly.
func anyDatum(r *rand.Rand, n api.Node, spread int64) api.Datum {
	var d api.Datum
	switch {
	case n.Rep == api.Optional && r.Intn(3) == 0:
		d.None = true
	case n.Rep == api.Repeated:
		n.Rep = api.Required
		for range r.Intn(3) {
			d.L = append(d.L, anyDatum(r, n, spread))
		}
	case n.Kind == api.Group:
		for _, in := range n.Sub {
			d.F = append(d.F, anyDatum(r, in, spread))
		}
	default:
		d.V = anyValue(r, n.Kind)
		if r.Intn(4) > 0 && (n.Kind == api.Int || n.Kind == api.Long) {
			d.V.N = spread
		}
	}
	return d
}

// anyNode as an edit adds it.
func anyNode(r *rand.Rand, name func() string, deep int) string {
	head := []string{"required ", "optional ", "repeated "}[r.Intn(3)]
	if deep == 0 || r.Intn(3) > 0 {
		return head + []string{"bool ", "int ", "int ", "long ", "bytes ", "double "}[r.Intn(6)] + name() + ";"
	}
	in := ""
	for range 1 + r.Intn(3) {
		in += anyNode(r, name, deep-1) + " "
	}
	return head + "group " + name() + " { " + in + "}"
}

// anyEdits: so many that can be.
func anyEdits(r *rand.Rand, many int) []string {
	names := 0
	name := func() string {
		names++
		return string(rune('a'+names/26)) + string(rune('a'+names%26))
	}
	var edits []string
	for len(edits) < many {
		_, next, err := evolve.Replay(edits)
		must(next, err)
		id := r.Intn(next + 1)
		line := ""
		switch r.Intn(8) {
		case 0:
			line = fmt.Sprintf("drop %d", id)
		case 1:
			line = fmt.Sprintf("rename %d %s", id, name())
		case 2:
			line = fmt.Sprintf("move %d %d", id, r.Intn(3))
		case 3:
			line = fmt.Sprintf("widen %d", id)
		case 4:
			line = fmt.Sprintf("loosen %d", id)
		default:
			line = fmt.Sprintf("add %d %s", []int{0, id}[r.Intn(2)], anyNode(r, name, 2))
		}
		if _, _, err := evolve.Replay(append(slices.Clone(edits), line)); err == nil {
			edits = append(edits, line)
		} else if r.Intn(50) == 0 {
			return edits
		}
	}
	return edits
}

// anyPred of the schema's leaves, of so many terms.
func anyPred(r *rand.Rand, root api.Node, terms int) pred.Pred {
	if r.Intn(5) == 0 && terms < 4 {
		return pred.Pred{Op: "not", L: []pred.Pred{anyPred(r, root, terms)}}
	}
	if terms > 1 {
		first := 1 + r.Intn(terms-1)
		return pred.Pred{Op: []string{"and", "or"}[r.Intn(2)], L: []pred.Pred{anyPred(r, root, first), anyPred(r, root, terms-first)}}
	}
	l := must(schema.Leaves(root))
	leaf := l[r.Intn(len(l))]
	if r.Intn(4) == 0 {
		return pred.Pred{Op: "null", ID: leaf.ID}
	}
	return pred.Pred{Op: "term", ID: leaf.ID, How: []string{"<", "<=", "=", "!=", ">", ">="}[r.Intn(6)], V: anyValue(r, leaf.Kind)}
}

// trial: a file, what it was made of, and an Ask of it.
type trial struct {
	from api.Node
	l    []api.Datum
	rows int
	s    string
	ask  scan.Ask
	p    *pred.Pred // nil: all records
}

func (c trial) needed() []int {
	return neededByTheRule(c.from, c.ask.To, c.ask.IDs, leavesIn(c.p))
}

func (c trial) answer() []api.Datum {
	return answerByTheRule(c.from, c.ask.To, c.l, c.ask.IDs, c.p)
}

// mayHold: whether what is known of a group rules it out.
func (c trial) mayHold(group int) bool {
	l := c.l[group*c.rows : min(len(c.l), (group+1)*c.rows)]
	return c.p == nil || pred.May(*c.p, knownByTheRule(c.from, c.ask.To, l), len(l))
}

func (c trial) String() string {
	return fmt.Sprintf("%s to %s, %v, %q, of %s", must(schema.Text(c.from)), must(schema.Text(c.ask.To)), c.ask.IDs, c.ask.Where, told(c.l))
}

// anyTrial: of schemas that are some edits apart.
func anyTrial(r *rand.Rand) trial {
	for {
		edits := anyEdits(r, 1+r.Intn(10))
		then := r.Intn(len(edits) + 1)
		c := trial{from: replayed(edits[:then]...)}
		c.ask.To = replayed(edits...)
		if len(c.from.Sub) == 0 || len(c.ask.To.Sub) == 0 {
			continue
		}
		many := r.Intn(13)
		for i := range many {
			c.l = append(c.l, anyDatum(r, c.from, int64(i/3)))
		}
		c.rows = 1 + r.Intn(6)
		c.s = must(file.Write(c.from, c.l, c.rows, 1+r.Intn(6)))
		now := rowsOf(c.ask.To, nil)
		for range 1 + r.Intn(3) {
			c.ask.IDs = append(c.ask.IDs, now[r.Intn(len(now))].ID)
		}
		if r.Intn(6) > 0 {
			p := anyPred(r, c.ask.To, 1+r.Intn(4))
			where, err := pred.Text(c.ask.To, p)
			if err != nil {
				continue
			}
			c.p, c.ask.Where = &p, where
		}
		return c
	}
}
