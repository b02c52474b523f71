package shred

import (
	"slices"

	"shredcol/api"
	"shredcol/enc"
	"shredcol/schema"
)

// Count of records.
func Count(c api.Column) int {
	return howMany(c.Rep, func(rep int) bool { return rep == 0 })
}

// Part of a column.
func Part(leaf schema.Leaf, c api.Column, from, to int) (api.Column, error) {
	if err := check(leaf, c); err != nil {
		return api.Column{}, err
	}
	if from < 0 || from > to || to > Count(c) {
		return api.Column{}, api.ErrBound
	}
	first, end := startOf(c, from), startOf(c, to)
	value := valuesOf(leaf, c.Def[:first])
	valueEnd := value + valuesOf(leaf, c.Def[first:end])
	return joined(leaf, []api.Column{{
		Rep:    c.Rep[first:end],
		Def:    c.Def[first:end],
		Values: c.Values[value:valueEnd],
	}}), nil
}

// Join columns.
func Join(leaf schema.Leaf, l []api.Column) (api.Column, error) {
	many := 0
	for _, c := range l {
		if err := check(leaf, c); err != nil {
			return api.Column{}, err
		}
		many += len(c.Rep)
	}
	if many > api.MaxEntries {
		return api.Column{}, api.ErrBound
	}
	return joined(leaf, l), nil
}

// joined in memory of its own.
func joined(leaf schema.Leaf, l []api.Column) api.Column {
	out := api.Column{ID: leaf.ID}
	for _, c := range l {
		out.Rep = append(out.Rep, c.Rep...)
		out.Def = append(out.Def, c.Def...)
		out.Values = append(out.Values, c.Values...)
	}
	return out
}

// check that leaf and c are each other's.
func check(leaf schema.Leaf, c api.Column) error {
	if !isLeaf(leaf) || !fits(leaf, c) {
		return api.ErrShape
	}
	wrong := slices.IndexFunc(c.Values, func(v api.Value) bool { return v.Kind != leaf.Kind || !enc.IsValue(v) })
	if wrong >= 0 {
		return &api.Fault{At: wrong, Err: api.ErrKind}
	}
	return nil
}

func isLeaf(leaf schema.Leaf) bool {
	return between(api.Bool, leaf.Kind, api.Double) &&
		between(0, leaf.MaxRep, api.MaxNodes) &&
		between(0, leaf.MaxDef, api.MaxNodes)
}

// fits: the levels and the number of values, whatever the values are.
func fits(leaf schema.Leaf, c api.Column) bool {
	if c.ID != leaf.ID || len(c.Rep) != len(c.Def) {
		return false
	}
	if len(c.Rep) > 0 && c.Rep[0] != 0 {
		return false
	}
	outside := func(most int) func(int) bool {
		return func(level int) bool { return !between(0, level, most) }
	}
	if slices.ContainsFunc(c.Rep, outside(leaf.MaxRep)) || slices.ContainsFunc(c.Def, outside(leaf.MaxDef)) {
		return false
	}
	return len(c.Values) == valuesOf(leaf, c.Def)
}

func between(least, n, most int) bool { return least <= n && n <= most }

// startOf a record: the place of its first entry; of the one behind the last: the length.
func startOf(c api.Column, record int) int {
	ahead := 0
	start := slices.IndexFunc(c.Rep, func(rep int) bool {
		if rep == 0 {
			ahead++
		}
		return ahead > record
	})
	if start < 0 {
		return len(c.Rep)
	}
	return start
}

// valuesOf entries: how many they have.
func valuesOf(leaf schema.Leaf, def []int) int {
	return howMany(def, func(level int) bool { return level == leaf.MaxDef })
}

func howMany(levels []int, is func(int) bool) int {
	n := 0
	for _, level := range levels {
		if is(level) {
			n++
		}
	}
	return n
}
