package stats

import (
	"shredcol/api"
	"shredcol/enc"
	"shredcol/wire"
)

// Bytes that say whether there are values.
const (
	hasNot = 0
	has    = 1
)

// Text of stats.
func Text(s Stats) string {
	return countText(s.Entries) + countText(s.Nulls) + valuesText(s)
}

func countText(n int) string { return wire.Uvarint(uint64(max(n, 0))) }

func valuesText(s Stats) string {
	nothing := string([]byte{hasNot})
	if !s.Has {
		return nothing
	}
	least, err := enc.Plain(s.kind(), []api.Value{s.Min})
	if err != nil {
		return nothing
	}
	greatest, err := enc.Plain(s.kind(), []api.Value{s.Max})
	if err != nil {
		return nothing
	}
	return string([]byte{has, byte(s.kind())}) + wire.Text(least) + wire.Text(greatest)
}

// Read stats.
func Read(s string) (t Stats, used int, err error) {
	r := reader{rest: s}
	t.Entries = r.count(api.MaxEntries)
	t.Nulls = r.count(t.Entries)
	t.Has = r.oneByte(hasNot, has) == has
	if t.Has {
		kind := r.oneByte(api.Bool, api.Double)
		t.Min, t.Max = r.value(kind), r.value(kind)
	}
	if r.failed || !isWhole(t) {
		return Stats{}, 0, api.ErrText
	}
	return t, len(s) - len(r.rest), nil
}

// isWhole: whether the parts go together.
func isWhole(t Stats) bool {
	return t.Has == (t.Nulls < t.Entries) && !enc.Less(t.Max, t.Min)
}

// reader of a text from its beginning. Once it has failed what it answers is worth
// nothing, so that failure is asked for once, at the end.
type reader struct {
	rest   string
	failed bool
}

func (r *reader) count(most int) int {
	n, used, err := wire.ReadUvarint(r.rest)
	// Held against most while it is still without a sign: an int might run over.
	if err != nil || n > uint64(most) {
		r.failed = true
		return 0
	}
	r.rest = r.rest[used:]
	return int(n)
}

func (r *reader) oneByte(least, most int) int {
	if r.rest == "" || int(r.rest[0]) < least || int(r.rest[0]) > most {
		r.failed = true
		return least
	}
	n := int(r.rest[0])
	r.rest = r.rest[1:]
	return n
}

func (r *reader) value(kind int) api.Value {
	text, used, err := wire.ReadText(r.rest)
	if err != nil {
		r.failed = true
		return api.Value{}
	}
	l, err := enc.ReadPlain(kind, text, 1)
	if err != nil {
		r.failed = true
		return api.Value{}
	}
	r.rest = r.rest[used:]
	return l[0]
}
