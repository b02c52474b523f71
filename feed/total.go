package feed

import (
	"shredcol/api"
	"shredcol/scan"
	"shredcol/schema"
	"shredcol/shred"
	"shredcol/stats"
	"shredcol/table"
)

// known of a leaf in all files of a snapshot.
func known(t *table.Table, snapshot, id, workers int) (stats.Stats, error) {
	if err := check(t, snapshot, workers); err != nil {
		return stats.Stats{}, err
	}
	l, err := lookFor(t, id)
	if err != nil {
		return stats.Stats{}, err
	}
	files, err := t.Files(snapshot)
	if err != nil {
		return stats.Stats{}, err
	}
	parts, err := ofEach(files, workers, l.in)
	if err != nil {
		return stats.Stats{}, err
	}
	var all stats.Stats
	for _, s := range parts {
		if all, err = stats.Merge(all, s); err != nil {
			return stats.Stats{}, err
		}
	}
	return all, nil
}

// look for one leaf of the schema of now.
type look struct {
	leaf schema.Leaf
	part api.Node // the schema, with that leaf alone
	ask  scan.Ask // for all records of it
}

func lookFor(t *table.Table, id int) (look, error) {
	root := t.Schema()
	leaves, err := schema.Leaves(root)
	if err != nil {
		return look{}, api.ErrNone // a root without nodes
	}
	for _, leaf := range leaves {
		if leaf.ID != id {
			continue
		}
		part, err := schema.Project(root, []int{id})
		if err != nil {
			return look{}, err
		}
		ask, err := t.Ask([]int{id}, "")
		return look{leaf, part, ask}, err
	}
	return look{}, api.ErrNone
}

// in a file: what is known of its records, carried.
func (l look) in(s string) (stats.Stats, error) {
	records, _, err := scan.Scan(s, l.ask)
	if err != nil {
		return stats.Stats{}, err
	}
	columns, err := shred.Shred(l.part, records)
	if err != nil {
		return stats.Stats{}, err
	}
	return stats.Of(l.leaf, columns[0])
}
