package file

import (
	"slices"

	"shredcol/api"
	"shredcol/assemble"
	"shredcol/chunk"
	"shredcol/schema"
	"shredcol/shred"
)

// Column of a group.
func Column(s string, f Footer, group, id int) (api.Column, error) {
	if group < 0 || group >= len(f.Groups) || !f.Groups[group].liesIn(s) {
		return api.Column{}, api.ErrBound
	}
	part := f.Groups[group]
	// A root that is no schema has no leaves, and no error of its own here.
	leaves, _ := schema.Leaves(f.Root)
	place := slices.IndexFunc(leaves, func(leaf schema.Leaf) bool { return leaf.ID == id })
	if place < 0 {
		return api.Column{}, api.ErrNone
	}
	// Only of a footer that Open did not make.
	if place >= len(part.Chunks) {
		return api.Column{}, api.ErrBound
	}
	spot := part.Chunks[place]
	c, err := chunk.Read(leaves[place], s[spot.At:spot.At+spot.Len])
	if err != nil {
		return api.Column{}, err
	}
	if shred.Count(c) != part.Records {
		return api.Column{}, api.ErrShape
	}
	return c, nil
}

// Read a file.
func Read(s string) (root api.Node, l []api.Datum, err error) {
	f, err := Open(s)
	if err != nil {
		return api.Node{}, nil, err
	}
	cols, err := columns(s, f)
	if err != nil {
		return api.Node{}, nil, err
	}
	l, err = assemble.Assemble(f.Root, cols)
	if err != nil {
		return api.Node{}, nil, err
	}
	return f.Root, l, nil
}

// liesIn: whether all of the group's chunks are bytes of s. No sum is made, as it might
// run over.
func (p Part) liesIn(s string) bool {
	return !slices.ContainsFunc(p.Chunks, func(c Spot) bool {
		return c.Len < 0 || c.At < 0 || c.At > len(s)-c.Len
	})
}

// columns of all leaves, those of all groups joined.
func columns(s string, f Footer) ([]api.Column, error) {
	leaves, err := schema.Leaves(f.Root)
	if err != nil {
		return nil, err
	}
	cols := make([]api.Column, len(leaves))
	for i, leaf := range leaves {
		cols[i].ID = leaf.ID
	}
	tooLong := false
	for group := range f.Groups {
		for i, leaf := range leaves {
			c, err := Column(s, f, group, leaf.ID)
			if err != nil {
				return nil, err
			}
			// A later column that is none is told first, so all of them are looked at; but
			// what no records can have is not kept, since columns may be far longer than
			// their text.
			tooLong = tooLong || len(cols[i].Rep)+len(c.Rep) > api.MaxEntries
			if !tooLong {
				lay(&cols[i], c)
			}
		}
	}
	if tooLong {
		return nil, api.ErrShape
	}
	return cols, nil
}

// lay a column's entries behind those of all.
func lay(all *api.Column, c api.Column) {
	all.Rep = append(all.Rep, c.Rep...)
	all.Def = append(all.Def, c.Def...)
	all.Values = append(all.Values, c.Values...)
}
