package feed_test

import (
	"fmt"
	"math/rand"
	"slices"
	"strconv"
	"strings"
	"testing"

	"shredcol/api"
	"shredcol/data"
	"shredcol/disk"
	"shredcol/enc"
	"shredcol/evolve"
	"shredcol/pred"
	"shredcol/schema"
	"shredcol/table"
)

// A table told another way: its edits, and of each snapshot the records with the schema that
// they were written under. Nothing of it stands in files or columns.

// must have no error.
func must[T any](x T, err error) T {
	if err != nil {
		panic(err)
	}
	return x
}

func replayed(edits []string) api.Node {
	root, _, err := evolve.Replay(edits)
	return must(root, err)
}

func recordsOf(root api.Node, texts ...string) []api.Datum {
	var l []api.Datum
	for _, s := range texts {
		l = append(l, must(data.Read(root, s)))
	}
	return l
}

// batch of records that are one file.
type batch struct {
	root api.Node
	l    []api.Datum
}

// both: a table, the disk that it is on, and what it should be.
type both struct {
	disk  *disk.Disk
	table *table.Table
	edits []string
	snaps [][]batch
}

// tableOf these edits.
func tableOf(edits ...string) *both {
	d := must(disk.New(api.MaxQuota))
	b := &both{disk: d, table: must(table.Create(d)), snaps: [][]batch{nil}}
	for _, line := range edits {
		b.edit(line)
	}
	return b
}

func (b *both) root() api.Node { return replayed(b.edits) }

func (b *both) edit(line string) {
	must(0, b.table.Edit(line))
	b.edits = append(b.edits, line)
}

func (b *both) append(l []api.Datum, rows, most int) {
	must(0, b.table.Append(l, rows, most))
	newest := slices.Concat(b.snaps[0], []batch{{b.root(), l}})
	snaps := slices.Concat([][]batch{newest}, b.snaps)
	b.snaps = snaps[:min(len(snaps), 4)]
}

// put these records, as one file.
func (b *both) put(texts ...string) { b.append(recordsOf(b.root(), texts...), 2, 4) }

// carried records of each file of a snapshot.
func (b *both) carried(snapshot int) [][]api.Datum {
	root := b.root()
	var out [][]api.Datum
	for _, file := range b.snaps[snapshot] {
		var l []api.Datum
		for _, d := range file.l {
			l = append(l, must(evolve.Carry(file.root, root, d)))
		}
		out = append(out, l)
	}
	return out
}

// scan of a snapshot, record by record.
func (b *both) scan(snapshot int, ids []int, where string) []api.Datum {
	root := b.root()
	var out []api.Datum
	for _, d := range slices.Concat(b.carried(snapshot)...) {
		if where == "" || must(pred.Eval(root, must(pred.Read(root, where)), d)) {
			out = append(out, must(data.Cut(root, ids, d)))
		}
	}
	return out
}

// total: what Total answers.
type total struct {
	entries, nulls int
	has            bool
	least, most    api.Value
	err            error
}

// total of a leaf, by a walk through each record: no column is made.
func (b *both) total(snapshot, id int) total {
	var t total
	for _, d := range slices.Concat(b.carried(snapshot)...) {
		t.walk(b.root(), d, id)
	}
	return t
}

// walk to the leaf: what is not there, or has no elements, is one entry without a value.
func (t *total) walk(n api.Node, d api.Datum, id int) {
	switch {
	case !leads(n, id):
	case d.None || n.Rep == api.Repeated && len(d.L) == 0:
		t.entries++
		t.nulls++
	case n.Rep == api.Repeated:
		n.Rep = api.Required
		for _, element := range d.L {
			t.walk(n, element, id)
		}
	case n.ID == id:
		t.entries++
		if !t.has || enc.Less(d.V, t.least) {
			t.least = d.V
		}
		if !t.has || enc.Less(t.most, d.V) {
			t.most = d.V
		}
		t.has = true
	default:
		for i, in := range n.Sub {
			t.walk(in, d.F[i], id)
		}
	}
}

func leads(n api.Node, id int) bool {
	return n.ID == id || slices.ContainsFunc(n.Sub, func(in api.Node) bool { return leads(in, id) })
}

func told(l []api.Datum) string { return fmt.Sprintf("%+v", l) }

// textsOf records, of the schema that is the projection.
func textsOf(x *table.Table, ids []int, l []api.Datum) string {
	root := must(schema.Project(x.Schema(), ids))
	var out []string
	for _, d := range l {
		out = append(out, must(data.Text(root, d)))
	}
	return strings.Join(out, " ")
}

// mustTell an error: each is bare.
func mustTell(t *testing.T, got, want error) {
	t.Helper()
	if got != want {
		t.Fatalf("%#v, not %#v", got, want)
	}
}

// on the disk: all that it has.
func on(d *disk.Disk) string {
	var l []string
	for _, name := range d.Names() {
		l = append(l, name+" "+strconv.Quote(must(d.Read(name))))
	}
	return strings.Join(l, "\n")
}

// Of which records, edits and predicates anything may be made.

func anyValue(r *rand.Rand, kind int) api.Value {
	v := api.Value{Kind: kind}
	switch kind {
	case api.Bool:
		v.N = int64(r.Intn(2))
	case api.Int, api.Long:
		v.N = int64(r.Intn(9) - 4)
	case api.Bytes:
		b := make([]byte, r.Intn(4))
		r.Read(b)
		v.S = string(b)
	default:
		v.N = int64(r.Uint64())
	}
	return v
}

func anyDatum(r *rand.Rand, n api.Node) api.Datum {
	switch {
	case n.Rep == api.Optional && r.Intn(3) == 0:
		return api.Datum{None: true}
	case n.Rep == api.Repeated:
		n.Rep = api.Required
		var d api.Datum
		for range r.Intn(4) {
			d.L = append(d.L, anyDatum(r, n))
		}
		return d
	case n.Kind != api.Group:
		return api.Datum{V: anyValue(r, n.Kind)}
	}
	var d api.Datum
	for _, in := range n.Sub {
		d.F = append(d.F, anyDatum(r, in))
	}
	return d
}

func anyNode(r *rand.Rand, deep int) string {
	name := string(rune('a'+r.Intn(26))) + string(rune('a'+r.Intn(26)))
	rep := []string{"required", "optional", "repeated"}[r.Intn(3)]
	if deep > 0 && r.Intn(3) == 0 {
		var in []string
		for range 1 + r.Intn(3) {
			in = append(in, anyNode(r, deep-1))
		}
		return rep + " group " + name + " { " + strings.Join(in, " ") + " }"
	}
	return rep + " " + []string{"bool", "int", "long", "bytes", "double", "int"}[r.Intn(6)] + " " + name + ";"
}

// anyEdit that the table takes.
func anyEdit(r *rand.Rand, b *both) string {
	for {
		line := anyLine(r, b.edits)
		if _, _, err := evolve.Replay(slices.Concat(b.edits, []string{line})); err == nil {
			return line
		}
	}
}

func anyLine(r *rand.Rand, edits []string) string {
	_, next, _ := evolve.Replay(edits)
	id := strconv.Itoa(r.Intn(next + 1))
	switch r.Intn(9) {
	case 0:
		return "drop " + id
	case 1:
		return "rename " + id + " n" + string(rune('a'+r.Intn(26)))
	case 2:
		return "move " + id + " " + strconv.Itoa(r.Intn(4))
	case 3:
		return "widen " + id
	case 4:
		return "loosen " + id
	case 5:
		return "add " + id + " " + anyNode(r, 1)
	}
	return "add 0 " + anyNode(r, 2)
}

func anyWhere(r *rand.Rand, root api.Node, deep int) string {
	leaves, err := schema.Leaves(root)
	if err != nil || r.Intn(30) == 0 {
		return []string{"", "x", "#1", "#99 is null", " "}[r.Intn(5)]
	}
	leaf := leaves[r.Intn(len(leaves))]
	id := "#" + strconv.Itoa(leaf.ID)
	switch r.Intn(5) {
	case 0:
		return []string{"", "!"}[r.Intn(2)] + id + " is null"
	case 1:
		if deep > 0 {
			return "!(" + anyWhere(r, root, deep-1) + ")"
		}
	case 2:
		if deep > 0 {
			return "(" + anyWhere(r, root, deep-1) + []string{" & ", " | "}[r.Intn(2)] + anyWhere(r, root, deep-1) + ")"
		}
	}
	how := []string{"<", "<=", "=", "!=", ">", ">="}[r.Intn(6)]
	return id + " " + how + " " + must(data.ValueText(anyValue(r, leaf.Kind)))
}

// idsOf the nodes of a schema; 0 is the root.
func idsOf(n api.Node) []int {
	ids := []int{n.ID}
	for _, in := range n.Sub {
		ids = append(ids, idsOf(in)...)
	}
	return ids
}

// anyIDs of a schema's nodes, one at least.
func anyIDs(r *rand.Rand, root api.Node) []int {
	ids := idsOf(root)
	r.Shuffle(len(ids), func(i, j int) { ids[i], ids[j] = ids[j], ids[i] })
	return ids[:1+r.Intn(len(ids))]
}

// anyTable that went through many calls.
func anyTable(r *rand.Rand, calls int) *both {
	b := tableOf()
	for range calls {
		if r.Intn(3) == 0 && len(b.edits) < 50 || len(b.root().Sub) == 0 {
			b.edit(anyEdit(r, b))
			continue
		}
		if len(b.snaps[0]) == 20 {
			break
		}
		var l []api.Datum
		for range r.Intn(5) {
			l = append(l, anyDatum(r, b.root()))
		}
		b.append(l, 1+r.Intn(5), 1+r.Intn(9))
	}
	for len(b.root().Sub) == 0 {
		b.edit(anyEdit(r, b))
	}
	return b
}
