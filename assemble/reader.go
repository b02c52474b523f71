package assemble

import "shredcol/api"

// reader of a column, entry by entry.
type reader struct {
	api.Column
	entry int // the next one's place
	value int // the next value's
}

func (r *reader) ended() bool { return r.entry == len(r.Rep) }

// rep of the next entry; behind the last one that of a record, since all lists end there.
func (r *reader) rep() int {
	if r.ended() {
		return 0
	}
	return r.Rep[r.entry]
}

// def of the next entry.
func (r *reader) def() int { return r.Def[r.entry] }

// take the next entry, which has a value.
func (r *reader) take() api.Value {
	v := r.Values[r.value]
	r.value++
	r.pass()
	return v
}

// pass the next entry.
func (r *reader) pass() { r.entry++ }
