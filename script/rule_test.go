package script_test

import (
	"errors"
	"fmt"
	"math/rand"
	"regexp"
	"slices"
	"strconv"
	"strings"
	"testing"

	"shredcol/api"
	"shredcol/data"
	"shredcol/evolve"
	"shredcol/file"
	"shredcol/pred"
	"shredcol/schema"
	"shredcol/script"
)

// A script told another way: a table as its edits, and of each snapshot the records with the
// schema that they were written under. Nothing of it stands on a disk: where the power may
// have gone, or room may lack, the answer tells which of the tables that may be is there.

// must have no error.
func must[T any](x T, err error) T {
	if err != nil {
		panic(err)
	}
	return x
}

func replayed(edits []string) api.Node {
	root, _, err := evolve.Replay(edits)
	return must(root, err)
}

// batch: a record that was appended, or those that were made one file.
type batch struct {
	root api.Node
	l    []api.Datum
}

// model of a table. It is never changed: what comes is another one.
type model struct {
	edits []string
	snaps [][]batch
}

func newModel() model { return model{snaps: [][]batch{nil}} }

const (
	textTold  = "shredcol: text"
	boundTold = "shredcol: bound"
	shapeTold = "shredcol: shape"
	noneTold  = "shredcol: none"
	spaceTold = "shredcol: space"
)

// isTold: whether an answer is an error.
func isTold(answer string) bool { return strings.HasPrefix(answer, "shredcol: ") }

// toldOf an error: of a fault what it wraps.
func toldOf(err error) string {
	var f *api.Fault
	if errors.As(err, &f) {
		err = f.Err
	}
	return err.Error()
}

// form of lines: a command's word, and what it is about.
var form = regexp.MustCompile("(?s)^(?:(edit|append|scan) (.+)|(old) ([0-9] .+)|(cut) (0|[1-9][0-9]{0,4})|(count|compact|collect|open))$")

// formOf a line: both of these; no words of a line that is none.
func formOf(line string) (word, rest string) {
	l := form.FindStringSubmatch(line)
	if l == nil {
		return "", ""
	}
	return l[1] + l[3] + l[5] + l[7], l[2] + l[4] + l[6]
}

// change of a table, where there is room and power: what comes, and the answer.
func (m model) change(word, rest string) (model, string) {
	root := replayed(m.edits)
	switch word {
	case "edit":
		edits := slices.Concat(m.edits, []string{rest})
		if _, _, err := evolve.Replay(edits); err != nil {
			return m, toldOf(err)
		}
		return model{edits, m.snaps}, "ok"
	case "append":
		d, err := data.Read(root, rest)
		if err != nil {
			return m, toldOf(err)
		}
		return m.with(slices.Concat(m.snaps[0], []batch{{root, []api.Datum{d}}}), "ok")
	case "compact":
		if len(root.Sub) == 0 {
			return m, shapeTold
		}
		var parts []batch // a script has too few lines for two of them
		if l := m.records(0); len(l) > 0 {
			parts = []batch{{root, l}}
		}
		return m.with(parts, "ok "+strconv.Itoa(len(parts)))
	}
	return m, "ok" // collect
}

// with a newest snapshot of these.
func (m model) with(newest []batch, answer string) (model, string) {
	for _, b := range newest {
		if s, err := file.Write(b.root, b.l, 4, 8); err != nil {
			return m, toldOf(err)
		} else if len(s) > 200000 {
			return m, boundTold
		}
	}
	if len(newest) > 20 {
		return m, boundTold
	}
	snaps := slices.Concat([][]batch{newest}, m.snaps)
	return model{m.edits, snaps[:min(len(snaps), 4)]}, answer
}

// records of a snapshot, carried to the schema of now.
func (m model) records(snapshot int) []api.Datum {
	var out []api.Datum
	for _, b := range m.snaps[snapshot] {
		for _, d := range b.l {
			out = append(out, must(evolve.Carry(b.root, replayed(m.edits), d)))
		}
	}
	return out
}

// tell what is asked for and changes nothing.
func (m model) tell(word, rest string) string {
	switch word {
	case "scan":
		return m.scan(0, rest)
	case "old":
		return m.scan(int(rest[0]-'0'), rest[2:])
	}
	if len(replayed(m.edits).Sub) == 0 {
		return "0 in 0"
	}
	return fmt.Sprintf("%d in %d", len(m.records(0)), len(m.snaps[0]))
}

func (m model) scan(snapshot int, where string) string {
	root := replayed(m.edits)
	if snapshot >= len(m.snaps) {
		return boundTold
	}
	if len(root.Sub) == 0 {
		return shapeTold
	}
	satisfies := func(d api.Datum) bool { return true }
	if where != "-" {
		p, err := pred.Read(root, where)
		if err != nil {
			return toldOf(err)
		}
		satisfies = func(d api.Datum) bool { return must(pred.Eval(root, p, d)) }
	}
	var texts []string
	for _, d := range m.records(snapshot) {
		if satisfies(d) {
			texts = append(texts, must(data.Text(root, d)))
		}
	}
	if len(texts) == 0 {
		return "nothing"
	}
	return strings.Join(texts, " ")
}

// world: what may be there amid a script.
type world struct {
	model
	cut  bool // the power goes some time
	lost bool // it did, amid a change
}

// after a line that was answered so: the worlds that may be. Where the disk is tight, there
// may be no room.
func (w world) after(line, answer string, tight bool) []world {
	word, rest := formOf(line)
	next, want := w.model, ""
	switch word {
	case "":
		want = textTold
	case "cut":
		w.cut, want = true, "ok"
	case "open":
		w.cut, w.lost, want = false, false, "ok"
	case "scan", "old", "count":
		want = w.tell(word, rest)
	default:
		next, want = w.change(word, rest)
		if w.lost && !isTold(want) {
			next, want = w.model, noneTold
		}
		if w.cut && answer == noneTold && !isTold(want) {
			return []world{{w.model, true, true}, {next, true, true}}
		}
		if answer == noneTold && w.lost || answer == spaceTold && tight && !isTold(want) && word != "collect" {
			return []world{w}
		}
	}
	if answer != want {
		return nil
	}
	return []world{{next, w.cut, w.lost}}
}

// worldsAfter all of these lines. There is at least one, or the test fails.
func worldsAfter(t *testing.T, worlds []world, lines, answers []string, tight bool) []world {
	t.Helper()
	if len(lines) != len(answers) {
		t.Fatal(len(lines), len(answers))
	}
	for i, line := range lines {
		var next []world
		seen := map[string]world{}
		for _, w := range worlds {
			for _, v := range w.after(line, answers[i], tight) {
				key := fmt.Sprintf("%+v", v)
				if _, is := seen[key]; !is {
					next = append(next, v)
				}
				seen[key] = v
			}
		}
		if len(next) == 0 {
			t.Fatalf("%q: %q is not what %d worlds tell, the first one %+v", lines[:i+1], answers[i], len(worlds), worlds[0])
		}
		worlds = next
	}
	return worlds
}

// mustPlay by the rule, where there is room.
func mustPlay(t *testing.T, lines ...string) []world {
	t.Helper()
	return worldsAfter(t, []world{{model: newModel()}}, lines, must(script.Run(lines, api.MaxQuota)), false)
}

// Of which lines anything may be made.

func anyValue(r *rand.Rand, kind int) api.Value {
	v := api.Value{Kind: kind}
	switch kind {
	case api.Bool:
		v.N = int64(r.Intn(2))
	case api.Int, api.Long:
		v.N = int64(r.Intn(9) - 4)
	case api.Bytes:
		b := make([]byte, r.Intn(4))
		r.Read(b)
		v.S = string(b)
	default:
		v.N = int64(r.Uint64())
	}
	return v
}

func anyDatum(r *rand.Rand, n api.Node) api.Datum {
	switch {
	case n.Rep == api.Optional && r.Intn(3) == 0:
		return api.Datum{None: true}
	case n.Rep == api.Repeated:
		n.Rep = api.Required
		var d api.Datum
		for range r.Intn(4) {
			d.L = append(d.L, anyDatum(r, n))
		}
		return d
	case n.Kind != api.Group:
		return api.Datum{V: anyValue(r, n.Kind)}
	}
	var d api.Datum
	for _, in := range n.Sub {
		d.F = append(d.F, anyDatum(r, in))
	}
	return d
}

func anyNode(r *rand.Rand, deep int) string {
	name := string(rune('a'+r.Intn(26))) + string(rune('a'+r.Intn(26)))
	rep := []string{"required", "optional", "repeated"}[r.Intn(3)]
	if deep > 0 && r.Intn(3) == 0 {
		var in []string
		for range 1 + r.Intn(3) {
			in = append(in, anyNode(r, deep-1))
		}
		return rep + " group " + name + " { " + strings.Join(in, " ") + " }"
	}
	return rep + " " + []string{"bool", "int", "long", "bytes", "double", "int"}[r.Intn(6)] + " " + name + ";"
}

func anyEdit(r *rand.Rand, m model) string {
	_, next, _ := evolve.Replay(m.edits)
	id := strconv.Itoa(r.Intn(next + 1))
	switch r.Intn(8) {
	case 0:
		return "drop " + id
	case 1:
		return "rename " + id + " n" + string(rune('a'+r.Intn(26)))
	case 2:
		return "move " + id + " " + strconv.Itoa(r.Intn(4))
	case 3:
		return "widen " + id
	case 4:
		return "loosen " + id
	case 5:
		return "add " + id + " " + anyNode(r, 1)
	}
	return "add 0 " + anyNode(r, 2)
}

func anyWhere(r *rand.Rand, root api.Node, deep int) string {
	leaves, err := schema.Leaves(root)
	if err != nil || r.Intn(30) == 0 {
		return []string{"-", "x", "#1", "#99 is null", " "}[r.Intn(5)]
	}
	leaf := leaves[r.Intn(len(leaves))]
	id := "#" + strconv.Itoa(leaf.ID)
	switch r.Intn(5) {
	case 0:
		return []string{"", "!"}[r.Intn(2)] + id + " is null"
	case 1:
		if deep > 0 {
			return "!(" + anyWhere(r, root, deep-1) + ")"
		}
	case 2:
		if deep > 0 {
			return "(" + anyWhere(r, root, deep-1) + []string{" & ", " | "}[r.Intn(2)] + anyWhere(r, root, deep-1) + ")"
		}
	}
	how := []string{"<", "<=", "=", "!=", ">", ">="}[r.Intn(6)]
	return id + " " + how + " " + must(data.ValueText(anyValue(r, leaf.Kind)))
}

func anyRecord(r *rand.Rand, root api.Node) string {
	if len(root.Sub) == 0 {
		return "{a:1}"
	}
	return must(data.Text(root, anyDatum(r, root)))
}

// anyRightLine, of that table.
func anyRightLine(r *rand.Rand, w world) string {
	root := replayed(w.edits)
	if w.cut && r.Intn(3) == 0 {
		return "open"
	}
	where := "-"
	if r.Intn(3) > 0 {
		where = anyWhere(r, root, 2)
	}
	switch r.Intn(14) {
	case 0, 1:
		return "edit " + anyEdit(r, w.model)
	case 2:
		return "scan " + where
	case 3:
		return "old " + strconv.Itoa(r.Intn(5)) + " " + where
	case 4:
		return "count"
	case 5:
		return "compact"
	case 6:
		return "collect"
	case 7:
		return "cut " + strconv.Itoa(r.Intn(400))
	case 8:
		return "open"
	}
	return "append " + anyRecord(r, root)
}

// anyLine: now and then one that may be none.
func anyLine(r *rand.Rand, w world) string {
	line := anyRightLine(r, w)
	if r.Intn(12) > 0 {
		return line
	}
	at := r.Intn(len(line))
	switch r.Intn(3) {
	case 0:
		return line[:at] + line[at+1:]
	case 1:
		return line[:at] + string(line[r.Intn(len(line))]) + line[at:]
	}
	return line[:at] + " " + line[at:]
}

// anyLines, each as if the ones ahead had been done.
func anyLines(r *rand.Rand, w world, many int) []string {
	var lines []string
	for range many {
		line := anyLine(r, w)
		lines = append(lines, line)
		word, rest := formOf(line)
		switch word {
		case "edit", "append", "compact":
			w.model, _ = w.change(word, rest)
		case "cut", "open":
			w.cut = word == "cut"
		}
	}
	return lines
}
