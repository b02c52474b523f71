package compact_test

import (
	"errors"
	"fmt"
	"math/rand"
	"slices"
	"strconv"
	"strings"
	"testing"

	"shredcol/api"
	"shredcol/compact"
	"shredcol/data"
	"shredcol/disk"
	"shredcol/evolve"
	"shredcol/file"
	"shredcol/pred"
	"shredcol/schema"
	"shredcol/table"
)

// A table told another way: its edits, and of each snapshot the records with the schema that
// they were written under. Nothing of it stands on a disk.

// must have no error.
func must[T any](x T, err error) T {
	if err != nil {
		panic(err)
	}
	return x
}

func replayed(edits []string) api.Node {
	root, _, err := evolve.Replay(edits)
	return must(root, err)
}

func recordsOf(root api.Node, texts ...string) []api.Datum {
	var l []api.Datum
	for _, s := range texts {
		l = append(l, must(data.Read(root, s)))
	}
	return l
}

// batch of records that are one file.
type batch struct {
	root api.Node
	l    []api.Datum
	text string
}

// model of a table. It is never changed: what comes is another one.
type model struct {
	edits []string
	snaps [][]batch
}

func newModel() model { return model{snaps: [][]batch{nil}} }

// A call changes a table, or answers an error.
type call struct {
	what, line string // edit, append, compact, rewrite; of an edit or a predicate its text
	l          []api.Datum
	rows, most int
}

// of a table: what it tells beside the error.
func (c call) of(x *table.Table) (string, error) {
	switch c.what {
	case "edit":
		return "", x.Edit(c.line)
	case "append":
		return "", x.Append(c.l, c.rows, c.most)
	case "compact":
		before, after, err := compact.Compact(x, c.rows, c.most)
		return fmt.Sprint(before, after), err
	}
	gone, err := compact.Rewrite(x, c.line, c.rows, c.most)
	return fmt.Sprint(gone), err
}

// call of a model, where the disk has room, and power.
func (m model) call(c call) (model, string, error) {
	root := replayed(m.edits)
	switch c.what {
	case "edit":
		edits := slices.Concat(m.edits, []string{c.line})
		if _, _, err := evolve.Replay(edits); err != nil {
			return m, "", bare(err)
		}
		return model{edits, m.snaps}, "", nil
	case "append":
		next, err := m.withNew(m.snaps[0], [][]api.Datum{c.l}, c.rows, c.most)
		return next, "", err
	case "compact":
		parts := inHundreds(m.records(0))
		next, err := m.withNew(nil, parts, c.rows, c.most)
		if err != nil {
			return m, "0 0", err
		}
		return next, fmt.Sprint(len(m.snaps[0]), len(parts)), nil
	}
	p, err := pred.Read(root, c.line)
	if err != nil {
		return m, "0", err
	}
	var left []api.Datum
	for _, d := range m.records(0) {
		if !must(pred.Eval(root, p, d)) {
			left = append(left, d)
		}
	}
	next, err := m.withNew(nil, inHundreds(left), c.rows, c.most)
	if err != nil {
		return m, "0", err
	}
	return next, fmt.Sprint(len(m.records(0)) - len(left)), nil
}

func inHundreds(l []api.Datum) [][]api.Datum {
	var parts [][]api.Datum
	for ; len(l) > 100; l = l[100:] {
		parts = append(parts, l[:100])
	}
	if len(l) > 0 {
		parts = append(parts, l)
	}
	return parts
}

// withNew: a snapshot of these files, and of these lists as ones behind them.
func (m model) withNew(newest []batch, lists [][]api.Datum, rows, most int) (model, error) {
	root := replayed(m.edits)
	if len(root.Sub) == 0 {
		return m, api.ErrShape
	}
	for _, l := range append([][]api.Datum{nil}, lists...) {
		s, err := file.Write(root, l, rows, most)
		if err != nil {
			return m, err
		}
		if len(s) > 200000 {
			return m, api.ErrBound
		}
	}
	newest = slices.Clone(newest)
	for _, l := range lists {
		newest = append(newest, batch{root, l, must(file.Write(root, l, rows, most))})
	}
	if len(newest) > 20 {
		return m, api.ErrBound
	}
	snaps := slices.Concat([][]batch{newest}, m.snaps)
	return model{m.edits, snaps[:min(len(snaps), 4)]}, nil
}

// records of a snapshot, carried to the schema of now (none, if that has no nodes).
func (m model) records(snapshot int) []api.Datum {
	root := replayed(m.edits)
	var out []api.Datum
	if len(root.Sub) == 0 {
		return nil
	}
	for _, b := range m.snaps[snapshot] {
		for _, d := range b.l {
			out = append(out, must(evolve.Carry(b.root, root, d)))
		}
	}
	return out
}

func (m model) texts(snapshot int) []string {
	var out []string
	for _, b := range m.snaps[snapshot] {
		out = append(out, b.text)
	}
	return out
}

// files of all snapshots, each once.
func (m model) files() int {
	texts := map[string]int{}
	for k := range m.snaps {
		for _, s := range m.texts(k) {
			texts[s]++
		}
	}
	return len(texts)
}

func (m model) brief() string {
	l := [][]string{m.edits}
	for k := range m.snaps {
		l = append(l, m.texts(k))
	}
	return fmt.Sprintf("%q", l)
}

// brief: what all else of a table hangs on.
func brief(x *table.Table) string {
	l := [][]string{x.Edits()}
	for k := range x.Snapshots() {
		l = append(l, must(x.Files(k)))
	}
	return fmt.Sprintf("%q", l)
}

func told(l []api.Datum) string { return fmt.Sprintf("%+v", l) }

// bare error, without its place.
func bare(err error) error {
	var f *api.Fault
	if errors.As(err, &f) {
		return f.Err
	}
	return err
}

// mustTell an error: bare ones are held by ==, one with a place by its place too.
func mustTell(t *testing.T, got, want error) {
	t.Helper()
	var f, g *api.Fault
	if errors.As(got, &f) && errors.As(want, &g) && f.At == g.At && f.Err == g.Err {
		return
	}
	if got != want {
		t.Fatalf("%#v, not %#v", got, want)
	}
}

// mustBe the model, by its files and by scans of all records.
func mustBe(t *testing.T, x *table.Table, m model) {
	t.Helper()
	if got, want := brief(x), m.brief(); got != want {
		t.Fatalf("%s, not %s", got, want)
	}
	if len(x.Schema().Sub) == 0 {
		return
	}
	for k := range m.snaps {
		if got, err := x.Scan(k, []int{0}, ""); err != nil || told(got) != told(m.records(k)) {
			t.Fatalf("%d: %+v, %v, not %+v", k, got, err, m.records(k))
		}
	}
}

// mustStand: what is on the disk is that table.
func mustStand(t *testing.T, d *disk.Disk, m model) {
	t.Helper()
	x, err := table.Open(d)
	if err != nil {
		t.Fatal(err)
	}
	mustBe(t, x, m)
}

// on the disk: all that it has.
func on(d *disk.Disk) string {
	var l []string
	for _, name := range d.Names() {
		l = append(l, name+" "+strconv.Quote(must(d.Read(name))))
	}
	return strings.Join(l, "\n")
}

// mustDo all of these, in the table and in the model.
func mustDo(t *testing.T, x *table.Table, m model, calls ...call) model {
	t.Helper()
	for _, c := range calls {
		next, want, err := m.call(c)
		mustTell(t, err, nil)
		got, err := c.of(x)
		if got != want || err != nil {
			t.Fatalf("%s %.30q: %s, %v, not %s", c.what, c.line, got, err, want)
		}
		m = next
	}
	return m
}

func edit(line string) call { return call{what: "edit", line: line} }

// appendOf these records, of the model's schema.
func (m model) appendOf(texts ...string) call {
	return call{what: "append", l: recordsOf(replayed(m.edits), texts...), rows: 2, most: 4}
}

func compacted(rows, most int) call { return call{what: "compact", rows: rows, most: most} }

func rewritten(where string) call { return call{what: "rewrite", line: where, rows: 4, most: 8} }

// tableOf these edits, on a disk.
func tableOf(t *testing.T, quota int, edits ...string) (*disk.Disk, *table.Table, model) {
	t.Helper()
	d := must(disk.New(quota))
	x, m := must(table.Create(d)), newModel()
	for _, line := range edits {
		m = mustDo(t, x, m, edit(line))
	}
	return d, x, m
}

// Of which records, edits and predicates anything may be made.

func anyValue(r *rand.Rand, kind int) api.Value {
	v := api.Value{Kind: kind}
	switch kind {
	case api.Bool:
		v.N = int64(r.Intn(2))
	case api.Int, api.Long:
		v.N = int64(r.Intn(9) - 4)
	case api.Bytes:
		b := make([]byte, r.Intn(4))
		r.Read(b)
		v.S = string(b)
	default:
		v.N = int64(r.Uint64())
	}
	return v
}

func anyDatum(r *rand.Rand, n api.Node) api.Datum {
	switch {
	case n.Rep == api.Optional && r.Intn(3) == 0:
		return api.Datum{None: true}
	case n.Rep == api.Repeated:
		n.Rep = api.Required
		var d api.Datum
		for range r.Intn(4) {
			d.L = append(d.L, anyDatum(r, n))
		}
		return d
	case n.Kind != api.Group:
		return api.Datum{V: anyValue(r, n.Kind)}
	}
	var d api.Datum
	for _, in := range n.Sub {
		d.F = append(d.F, anyDatum(r, in))
	}
	return d
}

func anyNode(r *rand.Rand, deep int) string {
	name := string(rune('a'+r.Intn(26))) + string(rune('a'+r.Intn(26)))
	rep := []string{"required", "optional", "repeated"}[r.Intn(3)]
	if deep > 0 && r.Intn(3) == 0 {
		var in []string
		for range 1 + r.Intn(3) {
			in = append(in, anyNode(r, deep-1))
		}
		return rep + " group " + name + " { " + strings.Join(in, " ") + " }"
	}
	return rep + " " + []string{"bool", "int", "long", "bytes", "double", "int"}[r.Intn(6)] + " " + name + ";"
}

func anyEdit(r *rand.Rand, m model) call {
	_, next, _ := evolve.Replay(m.edits)
	id := strconv.Itoa(r.Intn(next + 1))
	switch r.Intn(9) {
	case 0:
		return edit("drop " + id)
	case 1:
		return edit("rename " + id + " n" + string(rune('a'+r.Intn(26))))
	case 2:
		return edit("move " + id + " " + strconv.Itoa(r.Intn(4)))
	case 3:
		return edit("widen " + id)
	case 4:
		return edit("loosen " + id)
	case 5:
		return edit("add " + id + " " + anyNode(r, 1))
	}
	return edit("add 0 " + anyNode(r, 2))
}

// anySizes: rows and most, now and then wrong ones.
func anySizes(r *rand.Rand) (rows, most int) {
	rows, most = 1+r.Intn(5), 1+r.Intn(9)
	switch r.Intn(20) {
	case 0:
		rows = []int{0, -1, 101}[r.Intn(3)]
	case 1:
		most = []int{0, -1, 20001}[r.Intn(3)]
	}
	return rows, most
}

func anyWhere(r *rand.Rand, root api.Node, deep int) string {
	leaves, err := schema.Leaves(root)
	if err != nil || r.Intn(30) == 0 {
		return []string{"", "x", "#1", "#99 is null", " "}[r.Intn(5)]
	}
	leaf := leaves[r.Intn(len(leaves))]
	id := "#" + strconv.Itoa(leaf.ID)
	switch r.Intn(5) {
	case 0:
		return []string{"", "!"}[r.Intn(2)] + id + " is null"
	case 1:
		if deep > 0 {
			return "!(" + anyWhere(r, root, deep-1) + ")"
		}
	case 2:
		if deep > 0 {
			return "(" + anyWhere(r, root, deep-1) + []string{" & ", " | "}[r.Intn(2)] + anyWhere(r, root, deep-1) + ")"
		}
	}
	how := []string{"<", "<=", "=", "!=", ">", ">="}[r.Intn(6)]
	return id + " " + how + " " + must(data.ValueText(anyValue(r, leaf.Kind)))
}

func anyCall(r *rand.Rand, m model) call {
	root := replayed(m.edits)
	rows, most := anySizes(r)
	switch r.Intn(8) {
	case 0, 1:
		return anyEdit(r, m)
	case 2:
		return compacted(rows, most)
	case 3:
		return call{what: "rewrite", line: anyWhere(r, root, 2), rows: rows, most: most}
	}
	c := call{what: "append", rows: rows, most: most}
	for range r.Intn(5) {
		c.l = append(c.l, anyDatum(r, root))
	}
	return c
}

// rightCall: one that the model takes.
func rightCall(r *rand.Rand, m model) call {
	for {
		c := anyCall(r, m)
		if _, _, err := m.call(c); err == nil {
			return c
		}
	}
}
