package file

import (
	"slices"

	"shredcol/api"
	"shredcol/assemble"
	"shredcol/chunk"
	"shredcol/schema"
	"shredcol/shred"
)

// Column of a group.
func Column(s string, f Footer, group, id int) (api.Column, error) {
	if group < 0 || group >= len(f.Groups) || !f.Groups[group].liesIn(s) {
		return api.Column{}, api.ErrBound
	}
	part := f.Groups[group]
	// A root that is no schema has no leaves, and no error of its own here.
	leaves, _ := schema.Leaves(f.Root)
	place := slices.IndexFunc(leaves, func(leaf schema.Leaf) bool { return leaf.ID == id })
	if place < 0 {
		return api.Column{}, api.ErrNone
	}
	// Only of a footer that Open did not make.
	if place >= len(part.Chunks) {
		return api.Column{}, api.ErrBound
	}
	spot := part.Chunks[place]
	c, err := chunk.Read(leaves[place], s[spot.At:spot.At+spot.Len])
	if err != nil {
		return api.Column{}, err
	}
	if shred.Count(c) != part.Records {
		return api.Column{}, api.ErrShape
	}
	return c, nil
}

// Read a file.
func Read(s string) (root api.Node, l []api.Datum, err error) {
	f, err := Open(s)
	if err != nil {
		return api.Node{}, nil, err
	}
	cols, err := allColumns(s, f)
	if err != nil {
		return api.Node{}, nil, err
	}
	l, err = assemble.Assemble(f.Root, cols)
	if err != nil {
		return api.Node{}, nil, err
	}
	return f.Root, l, nil
}

// liesIn: whether all of the group's chunks are bytes of s. No sum is made, as it might
// run over.
func (p Part) liesIn(s string) bool {
	return !slices.ContainsFunc(p.Chunks, func(c Spot) bool {
		return c.Len < 0 || c.At < 0 || c.At > len(s)-c.Len
	})
}

// Columns of these leaves, in this order, each joined of those of these groups. Column's
// errors, group by group, leaf by leaf; ErrShape: one of more than MaxEntries entries.
func Columns(s string, f Footer, groups, ids []int) ([]api.Column, error) {
	cols := make([]api.Column, len(ids))
	for i, id := range ids {
		cols[i].ID = id
	}
	tooLong := false
	for _, group := range groups {
		for i, id := range ids {
			c, err := Column(s, f, group, id)
			if err != nil {
				return nil, err
			}
			// A later column that is none is told first, so all of them are looked at; but
			// what no records can have is not kept, since columns may be far longer than
			// their text.
			tooLong = tooLong || len(cols[i].Rep)+len(c.Rep) > api.MaxEntries
			if !tooLong {
				lay(&cols[i], c)
			}
		}
	}
	if tooLong {
		return nil, api.ErrShape
	}
	return cols, nil
}

// allColumns of all leaves, in order.
func allColumns(s string, f Footer) ([]api.Column, error) {
	leaves, err := schema.Leaves(f.Root)
	if err != nil {
		return nil, err
	}
	var groups, ids []int
	for group := range f.Groups {
		groups = append(groups, group)
	}
	for _, leaf := range leaves {
		ids = append(ids, leaf.ID)
	}
	return Columns(s, f, groups, ids)
}

// lay a column's entries behind those of all.
func lay(all *api.Column, c api.Column) {
	all.Rep = append(all.Rep, c.Rep...)
	all.Def = append(all.Def, c.Def...)
	all.Values = append(all.Values, c.Values...)
}
