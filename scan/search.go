package scan

import (
	"slices"

	"shredcol/api"
	"shredcol/assemble"
	"shredcol/file"
	"shredcol/page"
	"shredcol/pred"
	"shredcol/schema"
	"shredcol/stats"
)

// search for a question's answer in a file.
type search struct {
	question
	s       string
	footer  file.Footer
	part    api.Node    // the file's schema, of what is needed alone
	columns []column    // those of part's leaves, in order
	kinds   map[int]int // of To's leaves, by their IDs
}

// column of a file: a leaf, and its chunk in each group.
type column struct {
	schema.Leaf
	chunks []string
}

func (q question) searchOf(s string, f file.Footer) (search, error) {
	part, err := q.needed()
	if err != nil {
		return search{}, err
	}
	x := search{question: q, s: s, footer: f, part: part, kinds: map[int]int{}}
	leaves, err := schema.Leaves(q.To)
	if err != nil {
		return search{}, err
	}
	for _, leaf := range leaves {
		x.kinds[leaf.ID] = leaf.Kind
	}
	ids, err := schema.Under(part, rootID)
	if err != nil {
		return search{}, err
	}
	for _, id := range ids {
		c, err := columnOf(s, f, id)
		if err != nil {
			return search{}, err
		}
		x.columns = append(x.columns, c)
	}
	return x, nil
}

// columnOf a leaf of the file that was opened so.
func columnOf(s string, f file.Footer, id int) (column, error) {
	leaves, err := schema.Leaves(f.Root)
	if err != nil {
		return column{}, err
	}
	place := slices.IndexFunc(leaves, func(leaf schema.Leaf) bool { return leaf.ID == id })
	if place < 0 {
		return column{}, api.ErrNone
	}
	c := column{Leaf: leaves[place]}
	for _, group := range f.Groups {
		spot := group.Chunks[place]
		c.chunks = append(c.chunks, s[spot.At:spot.At+spot.Len])
	}
	return c, nil
}

// choose the groups that are looked into: those that may have records that satisfy. All
// pages of these are looked into, so that a chunk costs its whole length.
func (x search) choose() (groups []int, cost Cost, err error) {
	cost.Bytes = x.footer.Len
	for i, group := range x.footer.Groups {
		known, whole, err := x.peekAt(i)
		if err != nil {
			return nil, Cost{}, err
		}
		if !x.asksAll() && !pred.May(x.where, known, group.Records) {
			cost.Skipped += whole.Pages
			continue
		}
		groups = append(groups, i)
		cost.Bytes += whole.Bytes
		cost.Pages += whole.Pages
	}
	return groups, cost, nil
}

// peekAt what is needed of a group: what is known of it, and what all of it costs.
func (x search) peekAt(group int) (known []pred.Known, whole Cost, err error) {
	for _, c := range x.columns {
		chunk := c.chunks[group]
		of, pages, err := peek(c.Leaf, chunk)
		if err != nil {
			return nil, Cost{}, err
		}
		known = append(known, pred.Known{ID: c.ID, Stats: x.carried(c.ID, of)})
		whole.Bytes += len(chunk)
		whole.Pages += pages
	}
	return known, whole, nil
}

// carried to To: the predicate's values are of the kind that the leaf has there.
func (x search) carried(id int, of stats.Stats) stats.Stats {
	if kind, is := x.kinds[id]; is && of.Has {
		of.Min.Kind, of.Max.Kind = kind, kind
	}
	return of
}

// peek at all pages of a chunk: what is known of them together, and how many they are.
func peek(leaf schema.Leaf, chunk string) (known stats.Stats, pages int, err error) {
	for chunk != "" {
		one, used, err := page.Peek(leaf, chunk)
		if err != nil {
			return stats.Stats{}, 0, err
		}
		if known, err = stats.Merge(known, one); err != nil {
			return stats.Stats{}, 0, err
		}
		chunk = chunk[used:]
		pages++
	}
	return known, pages, nil
}

// records of these groups that are asked for.
func (x search) records(groups []int) ([]api.Datum, error) {
	var ids []int
	for _, c := range x.columns {
		ids = append(ids, c.ID)
	}
	cols, err := file.Columns(x.s, x.footer, groups, ids)
	if err != nil {
		return nil, err
	}
	l, err := assemble.Assemble(x.part, cols)
	if err != nil {
		return nil, err
	}
	return x.answer(x.part, l)
}
