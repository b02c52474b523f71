package table_test

import (
	"errors"
	"fmt"
	"math/rand"
	"reflect"
	"slices"
	"strconv"
	"strings"
	"testing"

	"shredcol/api"
	"shredcol/data"
	"shredcol/disk"
	"shredcol/evolve"
	"shredcol/file"
	"shredcol/pred"
	"shredcol/schema"
	"shredcol/table"
)

// A table told another way: its edits, and of each snapshot the records that were handed
// in, with the schema of then. Nothing of it stands on a disk.

// must have no error.
func must[T any](x T, err error) T {
	if err != nil {
		panic(err)
	}
	return x
}

func replayed(edits []string) api.Node {
	root, _, err := evolve.Replay(edits)
	return must(root, err)
}

func recordsOf(root api.Node, texts ...string) []api.Datum {
	var l []api.Datum
	for _, s := range texts {
		l = append(l, must(data.Read(root, s)))
	}
	return l
}

// batch of records that were appended at once.
type batch struct {
	root api.Node
	l    []api.Datum
	text string // the file that they are
}

// model of a table. It is never changed: what comes is another one.
type model struct {
	edits []string
	snaps [][]batch
}

func newModel() model { return model{snaps: [][]batch{nil}} }

// bare error, without its place.
func bare(err error) error {
	var f *api.Fault
	if errors.As(err, &f) {
		return f.Err
	}
	return err
}

// A call changes a table, or answers an error.
type call struct {
	line       string // of an edit; `` for an append
	l          []api.Datum
	rows, most int
}

func (c call) of(x *table.Table) error {
	if c.line != "" {
		return x.Edit(c.line)
	}
	return x.Append(c.l, c.rows, c.most)
}

// of a model, where the disk has room, and power.
func (m model) call(c call) (model, error) {
	if c.line != "" {
		edits := slices.Concat(m.edits, []string{c.line})
		if _, _, err := evolve.Replay(edits); err != nil {
			return m, bare(err)
		}
		return model{edits, m.snaps}, nil
	}
	root := replayed(m.edits)
	if len(root.Sub) == 0 {
		return m, api.ErrShape
	}
	s, err := file.Write(root, c.l, c.rows, c.most)
	if err != nil {
		return m, err
	}
	if len(s) > 200000 || len(m.snaps[0]) == 20 {
		return m, api.ErrBound
	}
	newest := slices.Concat(m.snaps[0], []batch{{root, c.l, s}})
	snaps := slices.Concat([][]batch{newest}, m.snaps)
	if len(snaps) > 4 {
		snaps = snaps[:4]
	}
	return model{m.edits, snaps}, nil
}

// scan of a snapshot, without a predicate's or a projection's errors.
func (m model) scan(snapshot int, ids []int, where string) []api.Datum {
	root := replayed(m.edits)
	var out []api.Datum
	for _, b := range m.snaps[snapshot] {
		for _, d := range b.l {
			d = must(evolve.Carry(b.root, root, d))
			if where == "" || must(pred.Eval(root, must(pred.Read(root, where)), d)) {
				out = append(out, must(data.Cut(root, ids, d)))
			}
		}
	}
	return out
}

func (m model) texts(snapshot int) []string {
	var out []string
	for _, b := range m.snaps[snapshot] {
		out = append(out, b.text)
	}
	return out
}

// files of all snapshots, each once: what has the same text is one.
func (m model) files() int {
	texts := map[string]int{}
	for k := range m.snaps {
		for _, s := range m.texts(k) {
			texts[s]++
		}
	}
	return len(texts)
}

// size of the files of all snapshots, and of all edits: what P171 hangs the room on.
func (m model) size() int {
	n := len(strings.Join(m.edits, ""))
	for k := range m.snaps {
		n += len(strings.Join(m.texts(k), ""))
	}
	return n
}

func told(l []api.Datum) string { return fmt.Sprintf("%+v", l) }

// differs from the model: how, or nothing.
func differs(x *table.Table, m model) string {
	root := replayed(m.edits)
	if got := x.Edits(); !slices.Equal(got, m.edits) {
		return fmt.Sprintf("edits %q, not %q", got, m.edits)
	}
	if got := x.Schema(); !reflect.DeepEqual(got, root) {
		return fmt.Sprintf("schema %+v, not %+v", got, root)
	}
	if got := x.Snapshots(); got != len(m.snaps) {
		return fmt.Sprintf("%d snapshots, not %d", got, len(m.snaps))
	}
	for _, k := range []int{-1, len(m.snaps), 1 << 40} {
		f, one := x.Files(k)
		l, two := x.Scan(k, []int{0}, "")
		if f != nil || l != nil || one != api.ErrBound || two != api.ErrBound {
			return fmt.Sprintf("snapshot %d: %v, %v", k, one, two)
		}
	}
	for k := range m.snaps {
		if got, err := x.Files(k); err != nil || !slices.Equal(got, m.texts(k)) {
			return fmt.Sprintf("files of %d: %q, %v, not %q", k, got, err, m.texts(k))
		}
		got, err := x.Scan(k, []int{0}, "")
		if len(root.Sub) == 0 {
			if got != nil || err != api.ErrShape {
				return fmt.Sprintf("scan of %d: %+v, %v, without nodes", k, got, err)
			}
			continue
		}
		if want := m.scan(k, []int{0}, ""); err != nil || told(got) != told(want) {
			return fmt.Sprintf("scan of %d: %+v, %v, not %+v", k, got, err, want)
		}
	}
	return ""
}

// brief: what all else of a table hangs on.
func brief(x *table.Table) string {
	l := [][]string{x.Edits()}
	for k := range x.Snapshots() {
		l = append(l, must(x.Files(k)))
	}
	return fmt.Sprintf("%q", l)
}

func (m model) brief() string {
	l := [][]string{m.edits}
	for k := range m.snaps {
		l = append(l, m.texts(k))
	}
	return fmt.Sprintf("%q", l)
}

func mustBe(t *testing.T, x *table.Table, m model) {
	t.Helper()
	if s := differs(x, m); s != "" {
		t.Fatal(s)
	}
}

// mustStand: what is on the disk is that table.
func mustStand(t *testing.T, d *disk.Disk, m model) {
	t.Helper()
	x, err := table.Open(d)
	if err != nil {
		t.Fatal(err)
	}
	mustBe(t, x, m)
}

// on the disk: all that it has.
func on(d *disk.Disk) string {
	var l []string
	for _, name := range d.Names() {
		l = append(l, name+" "+strconv.Quote(must(d.Read(name))))
	}
	return strings.Join(l, "\n")
}

// mustTell an error: bare ones are held by ==, one with a place by its place too.
func mustTell(t *testing.T, got, want error) {
	t.Helper()
	if !same(got, want) {
		t.Fatalf("%#v, not %#v", got, want)
	}
}

func same(a, b error) bool {
	var f, g *api.Fault
	if errors.As(a, &f) && errors.As(b, &g) {
		return f.At == g.At && f.Err == g.Err
	}
	return a == b
}

// tableOf these edits, on a disk.
func tableOf(quota int, edits ...string) (*disk.Disk, *table.Table, model) {
	d := must(disk.New(quota))
	x, m := must(table.Create(d)), newModel()
	for _, line := range edits {
		var err error
		if m, err = m.call(call{line: line}); err != nil || x.Edit(line) != nil {
			panic(line)
		}
	}
	return d, x, m
}

// appendOf these records, of the model's schema.
func (m model) appendOf(texts ...string) call {
	return call{l: recordsOf(replayed(m.edits), texts...), rows: 2, most: 4}
}

// mustDo all of these, in the table and in the model.
func mustDo(t *testing.T, x *table.Table, m model, calls ...call) model {
	t.Helper()
	for _, c := range calls {
		mustTell(t, c.of(x), nil)
		m = must(m.call(c))
	}
	return m
}

// Of which records and edits anything may be made.

func anyValue(r *rand.Rand, kind int) api.Value {
	v := api.Value{Kind: kind}
	switch kind {
	case api.Bool:
		v.N = int64(r.Intn(2))
	case api.Int, api.Long:
		v.N = int64(r.Intn(9) - 4)
	case api.Bytes:
		b := make([]byte, r.Intn(6))
		r.Read(b)
		v.S = string(b)
	default:
		v.N = int64(r.Uint64())
	}
	return v
}

func anyDatum(r *rand.Rand, n api.Node) api.Datum {
	switch {
	case n.Rep == api.Optional && r.Intn(3) == 0:
		return api.Datum{None: true}
	case n.Rep == api.Repeated:
		n.Rep = api.Required
		var d api.Datum
		for range r.Intn(4) {
			d.L = append(d.L, anyDatum(r, n))
		}
		return d
	case n.Kind != api.Group:
		return api.Datum{V: anyValue(r, n.Kind)}
	}
	var d api.Datum
	for _, in := range n.Sub {
		d.F = append(d.F, anyDatum(r, in))
	}
	return d
}

func anyNode(r *rand.Rand, deep int) string {
	name := string(rune('a'+r.Intn(26))) + string(rune('a'+r.Intn(26)))
	rep := []string{"required", "optional", "repeated"}[r.Intn(3)]
	if deep > 0 && r.Intn(3) == 0 {
		var in []string
		for range 1 + r.Intn(3) {
			in = append(in, anyNode(r, deep-1))
		}
		return rep + " group " + name + " { " + strings.Join(in, " ") + " }"
	}
	return rep + " " + []string{"bool", "int", "long", "bytes", "double", "int"}[r.Intn(6)] + " " + name + ";"
}

// anyEdit, some of them wrong.
func anyEdit(r *rand.Rand, m model) string {
	_, next, _ := evolve.Replay(m.edits)
	id := strconv.Itoa(r.Intn(next + 1))
	switch r.Intn(12) {
	case 0:
		return "drop " + id
	case 1:
		return "rename " + id + " n" + string(rune('a'+r.Intn(26)))
	case 2:
		return "move " + id + " " + strconv.Itoa(r.Intn(4))
	case 3, 4:
		return "widen " + id
	case 5, 6:
		return "loosen " + id
	case 7:
		return "add " + id + " " + anyNode(r, 1)
	case 8:
		return []string{"add", "drop 0", "drop", "x", " ", "add 0 required int a", "rename 1 A", "move 1 99"}[r.Intn(8)]
	}
	return "add 0 " + anyNode(r, 2)
}

func anyAppend(r *rand.Rand, m model) call {
	root := replayed(m.edits)
	c := call{rows: 1 + r.Intn(3), most: 1 + r.Intn(5)}
	for range r.Intn(5) {
		c.l = append(c.l, anyDatum(r, root))
	}
	switch r.Intn(12) {
	case 0:
		c.rows = []int{0, -1, 101}[r.Intn(3)]
	case 1:
		c.l = append(c.l, api.Datum{None: true})
	}
	return c
}

func anyCall(r *rand.Rand, m model) call {
	if r.Intn(5) < 2 {
		return call{line: anyEdit(r, m)}
	}
	return anyAppend(r, m)
}

// rightCall: one that the model takes.
func rightCall(r *rand.Rand, m model) call {
	for {
		c := anyCall(r, m)
		if _, err := m.call(c); err == nil {
			return c
		}
	}
}

// anyIDs of a schema's nodes, one at least.
func anyIDs(r *rand.Rand, root api.Node) []int {
	ids := must(schema.Under(root, 0))
	r.Shuffle(len(ids), func(i, j int) { ids[i], ids[j] = ids[j], ids[i] })
	return ids[:1+r.Intn(len(ids))]
}

func anyWhere(r *rand.Rand, root api.Node) string {
	leaves := must(schema.Leaves(root))
	leaf := leaves[r.Intn(len(leaves))]
	id := "#" + strconv.Itoa(leaf.ID)
	if r.Intn(3) == 0 {
		return []string{"", "!"}[r.Intn(2)] + id + " is null"
	}
	how := []string{"<", "<=", "=", "!=", ">", ">="}[r.Intn(6)]
	return id + " " + how + " " + must(data.ValueText(anyValue(r, leaf.Kind)))
}
