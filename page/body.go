package page

import (
	"slices"

	"shredcol/api"
	"shredcol/bitrun"
	"shredcol/enc"
	"shredcol/schema"
	"shredcol/stats"
	"shredcol/wire"
)

// bodyOf a column of which this is known.
func bodyOf(leaf schema.Leaf, c api.Column, known stats.Stats) (string, error) {
	rep, err := bitrun.Runs(c.Rep, bitrun.Width(leaf.MaxRep))
	if err != nil {
		return "", err
	}
	def, err := bitrun.Runs(c.Def, bitrun.Width(leaf.MaxDef))
	if err != nil {
		return "", err
	}
	code, values, err := enc.Best(leaf.Kind, c.Values)
	if err != nil {
		return "", err
	}
	return stats.Text(known) + wire.Text(rep) + wire.Text(def) + string([]byte{byte(code)}) + wire.Text(values), nil
}

// readStats that a body begins with.
func readStats(leaf schema.Leaf, body string) (t stats.Stats, used int, err error) {
	t, used, err = stats.Read(body)
	if err != nil {
		return stats.Stats{}, 0, err
	}
	if t.Entries == 0 || t.Has && t.Min.Kind != leaf.Kind {
		return stats.Stats{}, 0, api.ErrText
	}
	return t, used, nil
}

func readBody(leaf schema.Leaf, body string) (api.Column, error) {
	told, used, err := readStats(leaf, body)
	if err != nil {
		return api.Column{}, err
	}
	r := reader{rest: body[used:]}
	c := api.Column{ID: leaf.ID}
	c.Rep = r.levels(leaf.MaxRep, told.Entries)
	c.Def = r.levels(leaf.MaxDef, told.Entries)
	c.Values = r.values(leaf.Kind, told.Entries-told.Nulls)
	if r.failed || r.rest != "" || !isTold(leaf, c, told) {
		return api.Column{}, api.ErrText
	}
	return c, nil
}

// isTold: whether c is a column of the leaf, but for its first Rep, and has these stats.
func isTold(leaf schema.Leaf, c api.Column, told stats.Stats) bool {
	// Stats are those of whole records; they are the same whatever the first Rep is.
	c.Rep = slices.Clone(c.Rep)
	c.Rep[0] = 0
	known, err := stats.Of(leaf, c)
	return err == nil && known == told
}

// reader of a body from its beginning. Once it has failed what it answers is worth
// nothing, so that failure is asked for once, at the end.
type reader struct {
	rest   string
	failed bool
}

// text of any length: not by wire.ReadText, since what is written may be longer than
// api.MaxData.
func (r *reader) text() string {
	size, used, err := wire.ReadUvarint(r.rest)
	// Held against what is left while it is still without a sign: an int might run over.
	if err != nil || size > uint64(len(r.rest)-used) {
		r.failed = true
		return ""
	}
	end := used + int(size)
	text := r.rest[used:end]
	r.rest = r.rest[end:]
	return text
}

// levels from 0 to most, so many of them.
func (r *reader) levels(most, many int) []int {
	text := r.text()
	l, used, err := bitrun.ReadRuns(text, bitrun.Width(most), many)
	// So many bits may have room for more than the greatest level.
	above := func(level int) bool { return level > most }
	if err != nil || used != len(text) || slices.ContainsFunc(l, above) {
		r.failed = true
		return nil
	}
	return l
}

// values, so many of them, by the code that stands ahead of them.
func (r *reader) values(kind, many int) []api.Value {
	if r.rest == "" {
		r.failed = true
		return nil
	}
	code := int(r.rest[0])
	r.rest = r.rest[1:]
	l, err := enc.ReadBest(kind, code, r.text(), many)
	if err != nil {
		r.failed = true
		return nil
	}
	return l
}
