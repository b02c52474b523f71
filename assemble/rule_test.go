package assemble_test

import (
	"fmt"
	"math/rand"
	"slices"
	"strconv"
	"testing"

	"shredcol/api"
	"shredcol/assemble"
	"shredcol/schema"
	"shredcol/shred"
)

// facts that columns tell: of what is there, by where it stands (the record's place, and
// of each node on the path its ID, with its place where it is an element), the value, or
// none for a group.
type facts struct {
	records int
	there   map[string]api.Value
}

func factsOf(root api.Node, leaves []schema.Leaf, cols []api.Column) facts {
	f := facts{there: map[string]api.Value{}}
	for i, leaf := range leaves {
		values := cols[i].Values
		places := make([]int, leaf.MaxRep+1)
		places[0] = -1
		for k, rep := range cols[i].Rep {
			places[rep]++
			clear(places[rep+1:])
			if end := f.follow(root, leaf, cols[i].Def[k], places); cols[i].Def[k] == leaf.MaxDef {
				f.there[end], values = values[0], values[1:]
			}
		}
		f.records = max(f.records, places[0]+1)
	}
	return f
}

// follow the path as far as an entry's Def goes, and answer where it ends.
func (f facts) follow(root api.Node, leaf schema.Leaf, def int, places []int) string {
	where := strconv.Itoa(places[0])
	for _, id := range leaf.Path {
		n, _ := schema.Find(root, id)
		if n.Rep != api.Required {
			if def == 0 {
				return where
			}
			def--
		}
		where += "/" + strconv.Itoa(id)
		if n.Rep == api.Repeated {
			places = places[1:]
			where += ":" + strconv.Itoa(places[0])
		}
		f.there[where] = f.there[where]
	}
	return where
}

func (f facts) has(where string) bool {
	_, is := f.there[where]
	return is
}

// datum of the node by the facts, whether or not they are all that the columns tell.
func (f facts) datum(n api.Node, where string) api.Datum {
	where += "/" + strconv.Itoa(n.ID)
	switch {
	case n.Rep == api.Repeated:
		var d api.Datum
		for f.has(where + ":" + strconv.Itoa(len(d.L))) {
			d.L = append(d.L, f.one(n, where+":"+strconv.Itoa(len(d.L))))
		}
		return d
	case n.Rep == api.Optional && !f.has(where):
		return api.Datum{None: true}
	}
	return f.one(n, where)
}

func (f facts) one(n api.Node, where string) api.Datum {
	d := api.Datum{V: f.there[where]}
	for _, in := range n.Sub {
		d.F = append(d.F, f.datum(in, where))
	}
	return d
}

// byTheRule: the records that the facts tell, if they are right, and have these columns.
func byTheRule(root api.Node, cols []api.Column) ([]api.Datum, int, error) {
	leaves, err := schema.Leaves(root)
	if err != nil {
		return nil, -1, err
	}
	if len(leaves) != len(cols) {
		return nil, -1, api.ErrShape
	}
	for i, leaf := range leaves {
		if leaf.ID != cols[i].ID {
			return nil, -1, api.ErrShape
		}
	}
	for i, leaf := range leaves {
		_, err := shred.Part(leaf, cols[i], 0, shred.Count(cols[i]))
		if f, ok := err.(*api.Fault); ok {
			return nil, f.At, f.Err
		} else if err != nil {
			return nil, -1, err
		}
	}
	f := factsOf(root, leaves, cols)
	var l []api.Datum
	for i := range f.records {
		l = append(l, f.one(root, strconv.Itoa(i)))
	}
	again, err := shred.Shred(root, l)
	if err != nil || told(again) != told(cols) {
		return nil, -1, api.ErrShape
	}
	return l, -1, nil
}

// fit the values to the levels again, as far as one can.
func fit(r *rand.Rand, leaf schema.Leaf, c *api.Column) {
	var values []api.Value
	for _, def := range c.Def {
		if def == leaf.MaxDef {
			values = append(values, anyValue(r, leaf.Kind))
		}
	}
	c.Values = values
}

// spoil one thing of one column, which may leave it right.
func spoil(r *rand.Rand, leaf schema.Leaf, c *api.Column) {
	level := func(most int) int { return r.Intn(most + 1) }
	many := len(c.Rep)
	if many == 0 {
		c.Rep, c.Def = []int{0}, []int{level(leaf.MaxDef)}
		fit(r, leaf, c)
		return
	}
	at := r.Intn(many)
	switch r.Intn(6) {
	case 0:
		c.Rep[at] = level(leaf.MaxRep)
	case 1:
		c.Def[at] = level(leaf.MaxDef)
	case 2:
		c.Rep, c.Def = slices.Delete(c.Rep, at, at+1), slices.Delete(c.Def, at, at+1)
	case 3:
		c.Rep, c.Def = slices.Insert(c.Rep, at, level(leaf.MaxRep)), slices.Insert(c.Def, at, level(leaf.MaxDef))
	case 4:
		c.Rep[at], c.Def[at] = level(leaf.MaxRep), level(leaf.MaxDef)
	case 5:
		c.Rep, c.Def = c.Rep[:at], c.Def[:at]
	}
	if r.Intn(20) > 0 {
		fit(r, leaf, c)
	}
	if len(c.Values) > 0 && r.Intn(40) == 0 {
		c.Values[r.Intn(len(c.Values))].Kind = 1 + r.Intn(6)
	}
}

// TestP70ByTheRule: columns that are right by themselves, mostly, and often no records'.
func TestP70ByTheRule(t *testing.T) {
	r := rand.New(rand.NewSource(70))
	seen := map[error]int{}
	for range 12000 {
		root, l := anyRecords(r, 7, 4)
		cols := shredded(root, l)
		leaves := leavesOf(root)
		for range r.Intn(3) {
			i := r.Intn(len(cols))
			spoil(r, leaves[i], &cols[i])
		}
		want, at, wantErr := byTheRule(root, cols)
		seen[wantErr]++
		got, err := assemble.Assemble(root, cols)
		if !isSame(err, at, wantErr) || fmt.Sprint(got) != fmt.Sprint(want) {
			t.Fatalf("%+v:\n%s%v, %v, not %v, %d: %v", root, told(cols), got, err, want, at, wantErr)
		}
	}
	if seen[nil] < 3000 || seen[api.ErrShape] < 3000 || seen[api.ErrKind] < 50 {
		t.Error(seen)
	}
}

// allColumns of a leaf of kind Int with up to so many entries, right by themselves, all
// their values 7.
func allColumns(leaf schema.Leaf, most int) []api.Column {
	all := []api.Column{{ID: leaf.ID}}
	for from := 0; len(all[from].Rep) < most; from++ {
		c := all[from]
		for rep := range leaf.MaxRep + 1 {
			for def := range leaf.MaxDef + 1 {
				next := api.Column{ID: c.ID, Rep: append(slices.Clone(c.Rep), rep), Def: append(slices.Clone(c.Def), def), Values: c.Values}
				if def == leaf.MaxDef {
					next.Values = append(slices.Clone(c.Values), api.Value{Kind: api.Int, N: 7})
				}
				if next.Rep[0] == 0 {
					all = append(all, next)
				}
			}
		}
	}
	return all
}

// allOf the data of a node, with lists of up to so many elements, all values 7.
func allOf(n api.Node, most int) []api.Datum {
	switch n.Rep {
	case api.Optional:
		n.Rep = api.Required
		return append(allOf(n, most), api.Datum{None: true})
	case api.Repeated:
		n.Rep = api.Required
		ones := allOf(n, most)
		all := []api.Datum{{}}
		for from := 0; from < len(all); from++ {
			for _, one := range ones {
				if len(all[from].L) < most {
					all = append(all, api.Datum{L: append(slices.Clone(all[from].L), one)})
				}
			}
		}
		return all
	}
	if n.Kind != api.Group {
		return []api.Datum{{V: api.Value{Kind: api.Int, N: 7}}}
	}
	all := []api.Datum{{}}
	for _, in := range n.Sub {
		var longer []api.Datum
		for _, d := range all {
			for _, f := range allOf(in, most) {
				longer = append(longer, api.Datum{F: append(slices.Clone(d.F), f)})
			}
		}
		all = longer
	}
	return all
}

// allRecords whose columns have up to so many entries, by the text of the columns.
func allRecords(root api.Node, most int) map[string]string {
	records := map[string]string{}
	tooLong := func(c api.Column) bool { return len(c.Rep) > most }
	ones := slices.DeleteFunc(allOf(root, most), func(d api.Datum) bool {
		return slices.ContainsFunc(shredded(root, []api.Datum{d}), tooLong)
	})
	lists := [][]api.Datum{nil}
	for from := 0; from < len(lists); from++ {
		cols := shredded(root, lists[from])
		if slices.ContainsFunc(cols, tooLong) {
			continue
		}
		records[told(cols)] = fmt.Sprint(lists[from])
		if len(lists[from]) == most {
			continue
		}
		for _, d := range ones {
			lists = append(lists, append(slices.Clone(lists[from]), d))
		}
	}
	return records
}

// TestP70AllSmallOnes: all columns with a few entries, and all records that have such ones.
func TestP70AllSmallOnes(t *testing.T) {
	for _, c := range []struct {
		schema string
		most   int
	}{
		{"required int a #1;", 4},
		{"optional int a #1; required int b #2;", 3},
		{"repeated int a #1;", 5},
		{"optional group a #1 { repeated group b #2 { optional int c #3; } }", 4},
		{"repeated group a #1 { repeated group b #2 { required int c #3; } }", 4},
		{"repeated group a #1 { optional int b #2; required int c #3; }", 3},
		{"repeated group a #1 { repeated int b #2; required int c #3; }", 3},
		{"repeated int a #1; optional group b #2 { required int c #3; optional int d #4; }", 2},
		{"optional group a #1 { repeated int b #2; optional int c #3; }", 3},
	} {
		root := schemaOf(c.schema)
		records := allRecords(root, c.most)
		found := 0
		lists := [][]api.Column{nil}
		for _, leaf := range leavesOf(root) {
			var longer [][]api.Column
			for _, l := range lists {
				for _, column := range allColumns(leaf, c.most) {
					longer = append(longer, append(slices.Clone(l), column))
				}
			}
			lists = longer
		}
		for _, l := range lists {
			want, are := records[told(l)]
			got, err := assemble.Assemble(root, l)
			if are && (err != nil || fmt.Sprint(got) != want) || !are && (err != api.ErrShape || len(got) > 0) {
				t.Fatalf("%s:\n%s%v, %v, not %s", c.schema, told(l), got, err, want)
			}
			if are {
				found++
			}
		}
		if found != len(records) || found < c.most {
			t.Errorf("%s: %d of %d", c.schema, found, len(records))
		}
	}
}
