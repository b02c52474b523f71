package pred

import (
	"slices"

	"shredcol/api"
	"shredcol/data"
	"shredcol/stats"
)

// Eval a predicate.
func Eval(root api.Node, p Pred, d api.Datum) (bool, error) {
	if err := data.Check(root, d); err != nil {
		return false, err
	}
	if _, err := Text(root, p); err != nil {
		return false, err
	}
	values := map[int][]api.Value{}
	return holds(p, func(id int) []api.Value {
		if _, has := values[id]; !has {
			// Walk has no error: the record is right, and what has a text names leaves alone.
			values[id], _ = data.Walk(root, d, id)
		}
		return values[id]
	}), nil
}

// holds of a record, whose values of a leaf are told.
func holds(p Pred, valuesOf func(id int) []api.Value) bool {
	switch p.Op {
	case termOp:
		stands, is := stats.Standing(p.How)
		return is && slices.ContainsFunc(valuesOf(p.ID), func(v api.Value) bool { return stands(v, p.V) })
	case nullOp:
		return len(valuesOf(p.ID)) == 0
	case notOp:
		return !holds(p.L[0], valuesOf)
	case andOp:
		return holds(p.L[0], valuesOf) && holds(p.L[1], valuesOf)
	}
	return holds(p.L[0], valuesOf) || holds(p.L[1], valuesOf)
}
