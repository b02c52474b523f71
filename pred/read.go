package pred

import (
	"strconv"
	"strings"

	"shredcol/api"
	"shredcol/data"
	"shredcol/stats"
)

// Marks of a predicate's text.
const (
	idMark   = "#"
	nullMark = " is null"
	notMark  = "!"
	andMark  = " & "
	orMark   = " | "
	openMark = "("
	shutMark = ")"
	blank    = " "
)

// unreadable is thrown by a reader, with the error that Read answers.
type unreadable struct{ err error }

// Read a predicate.
func Read(root api.Node, s string) (p Pred, err error) {
	kinds, err := kindsOf(root)
	if err != nil {
		return Pred{}, err
	}
	if len(s) > api.MaxText {
		return Pred{}, api.ErrBound
	}
	defer func() {
		switch thrown := recover().(type) {
		case nil:
		case unreadable:
			p, err = Pred{}, thrown.err
		default:
			panic(thrown)
		}
	}()
	r := &reader{rest: s, kinds: kinds}
	p = r.or(0)
	r.end()
	return p, nil
}

// reader of a text: what is left of it, and in how many marks the deepest part stood.
type reader struct {
	rest    string
	kinds   map[int]int // of leaves, by their IDs
	deepest int
}

func throw(err error) { panic(unreadable{err}) }

// end of the text. How deep it was is asked here alone, since what is no predicate at
// all is told first.
func (r *reader) end() {
	if r.rest != "" {
		throw(api.ErrText)
	}
	if r.deepest > api.MaxDeep {
		throw(api.ErrBound)
	}
}

func (r *reader) take(mark string) {
	if !r.takeIf(mark) {
		throw(api.ErrText)
	}
}

// takeIf that mark comes next.
func (r *reader) takeIf(mark string) (is bool) {
	r.rest, is = strings.CutPrefix(r.rest, mark)
	return is
}

func (r *reader) or(deep int) Pred {
	p := r.and(deep)
	for r.takeIf(orMark) {
		p = Pred{Op: orOp, L: []Pred{p, r.and(deep)}}
	}
	return p
}

func (r *reader) and(deep int) Pred {
	p := r.one(deep)
	for r.takeIf(andMark) {
		p = Pred{Op: andOp, L: []Pred{p, r.one(deep)}}
	}
	return p
}

// one part that no mark between two can take apart.
func (r *reader) one(deep int) Pred {
	r.deepest = max(r.deepest, deep)
	switch {
	case r.takeIf(notMark):
		return Pred{Op: notOp, L: []Pred{r.one(deep + 1)}}
	case r.takeIf(openMark):
		p := r.or(deep + 1)
		r.take(shutMark)
		return p
	}
	return r.term()
}

func (r *reader) term() Pred {
	r.take(idMark)
	id := r.id()
	if r.takeIf(nullMark) {
		return Pred{Op: nullOp, ID: id}
	}
	r.take(blank)
	how := r.how()
	return Pred{Op: termOp, ID: id, How: how, V: r.value(r.kinds[id])}
}

// id of a leaf, as it is written: that no leaf has more than 4 digits, or a 0 ahead,
// needs no look of its own then.
func (r *reader) id() int {
	text := r.rest[:len(r.rest)-len(strings.TrimLeft(r.rest, "0123456789"))]
	r.take(text)
	id, err := strconv.Atoi(text)
	if err != nil || strconv.Itoa(id) != text {
		throw(api.ErrText)
	}
	if _, is := r.kinds[id]; !is {
		throw(api.ErrText)
	}
	return id
}

// how, with the blank behind it.
func (r *reader) how() string {
	how, rest, _ := strings.Cut(r.rest, blank)
	if _, is := stats.Standing(how); !is {
		throw(api.ErrText)
	}
	r.rest = rest
	return how
}

func (r *reader) value(kind int) api.Value {
	v, used, err := data.ReadValue(kind, r.rest)
	if err != nil {
		throw(api.ErrText)
	}
	r.rest = r.rest[used:]
	return v
}
