package scan

import (
	"slices"

	"shredcol/api"
	"shredcol/data"
	"shredcol/evolve"
	"shredcol/pred"
	"shredcol/schema"
)

const rootID = 0

// asksAll records, whatever they are?
func (a Ask) asksAll() bool { return a.Where == "" }

// question: an Ask that was looked at, of a file with that schema. Its IDs are those of
// leaves alone: they make the same projection, and are never more than a schema has.
type question struct {
	Ask
	from  api.Node
	where pred.Pred // none, if all are asked for
}

// lookAt what is asked of a file with that schema.
func lookAt(a Ask, from api.Node) (question, error) {
	if err := schema.Valid(a.To); err != nil {
		return question{}, err
	}
	if !evolve.Same(from, a.To) {
		return question{}, api.ErrKind
	}
	q := question{Ask: a, from: from}
	var err error
	if !q.asksAll() {
		if q.where, err = pred.Read(q.To, q.Where); err != nil {
			return question{}, err
		}
	}
	part, err := schema.Project(q.To, q.IDs)
	if err != nil {
		return question{}, err
	}
	if q.IDs, err = schema.Under(part, rootID); err != nil {
		return question{}, err
	}
	return q, nil
}

// answer out of records of that schema: the file's, or one that has of it what is needed.
func (q question) answer(from api.Node, l []api.Datum) ([]api.Datum, error) {
	var out []api.Datum
	for _, d := range l {
		d, err := evolve.Carry(from, q.To, d)
		if err != nil {
			return nil, err
		}
		is, err := q.satisfies(d)
		if err != nil {
			return nil, err
		}
		if !is {
			continue
		}
		if d, err = data.Cut(q.To, q.IDs, d); err != nil {
			return nil, err
		}
		out = append(out, d)
	}
	return out, nil
}

func (q question) satisfies(d api.Datum) (bool, error) {
	if q.asksAll() {
		return true, nil
	}
	return pred.Eval(q.To, q.where, d)
}

// needed: the leaves of the file that tell what is asked, as a part of its schema.
func (q question) needed() (api.Node, error) {
	leaves, err := schema.Leaves(q.To)
	if err != nil {
		return api.Node{}, err
	}
	asked := slices.Concat(q.IDs, q.inWhere())
	var ids []int
	for _, leaf := range leaves {
		if !slices.Contains(asked, leaf.ID) {
			continue
		}
		id, err := q.standIn(leaf)
		if err != nil {
			return api.Node{}, err
		}
		ids = append(ids, id)
	}
	return schema.Project(q.from, ids)
}

// inWhere: the leaves of the predicate.
func (q question) inWhere() []int {
	if q.asksAll() {
		return nil
	}
	return idsIn(nil, q.where)
}

// idsIn p, which was read, behind those of ids. Not by pred.Leaves, which goes
// api.MaxNodes deep: a text may go deeper.
func idsIn(ids []int, p pred.Pred) []int {
	if len(p.L) == 0 {
		return append(ids, p.ID)
	}
	for _, in := range p.L {
		ids = idsIn(ids, in)
	}
	return ids
}

// standIn for a leaf of To: itself, if the file has it; else the first leaf in the
// nearest node around it that the file has, which tells how often that node is there.
func (q question) standIn(leaf schema.Leaf) (int, error) {
	nearest := rootID
	for _, id := range leaf.Path {
		if _, err := schema.Find(q.from, id); err == nil {
			nearest = id
		}
	}
	ids, err := schema.Under(q.from, nearest)
	if err != nil {
		return 0, err
	}
	return ids[0], nil
}
