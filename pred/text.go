package pred

import (
	"strconv"

	"shredcol/api"
	"shredcol/data"
	"shredcol/stats"
)

// Text of a predicate.
func Text(root api.Node, p Pred) (string, error) {
	kinds, err := kindsOf(root)
	if err != nil {
		return "", err
	}
	w := &writer{kinds: kinds}
	if !w.write(p, 0) || len(w.b) > api.MaxText {
		return "", api.ErrShape
	}
	return string(w.b), nil
}

// writer of a text: what is written so far, of how many Preds.
type writer struct {
	kinds map[int]int // of leaves, by their IDs
	b     []byte
	preds int
}

// write p, in so many marks. It is false where p has no text that could be read again;
// what is written then is of no more use.
func (w *writer) write(p Pred, deep int) bool {
	w.preds++
	// Each Pred takes a byte or more, so that more of them are too long a text: asked
	// ahead of what stands in it, since there may be any number of them, any deep.
	if w.preds > api.MaxText || deep > api.MaxDeep {
		return false
	}
	switch p.Op {
	case termOp:
		return w.term(p)
	case nullOp:
		return w.null(p)
	case notOp:
		return w.not(p, deep)
	case andOp:
		return w.both(p, andMark, deep)
	case orOp:
		return w.both(p, orMark, deep)
	}
	return false
}

func (w *writer) put(s string) { w.b = append(w.b, s...) }

func (w *writer) term(p Pred) bool {
	kind, isLeaf := w.kinds[p.ID]
	_, isHow := stats.Standing(p.How)
	value, err := data.ValueText(p.V)
	if !isLeaf || !isHow || err != nil || p.V.Kind != kind || len(p.L) > 0 {
		return false
	}
	w.put(idMark + strconv.Itoa(p.ID) + blank + p.How + blank + value)
	return true
}

func (w *writer) null(p Pred) bool {
	_, isLeaf := w.kinds[p.ID]
	if !isLeaf || hasTerm(p) || len(p.L) > 0 {
		return false
	}
	w.put(idMark + strconv.Itoa(p.ID) + nullMark)
	return true
}

// hasTerm: whether a field is set that terms of the first kind alone have.
func hasTerm(p Pred) bool { return p.How != "" || p.V != api.Value{} }

func (w *writer) not(p Pred, deep int) bool {
	if p.ID != 0 || hasTerm(p) || len(p.L) != 1 {
		return false
	}
	w.put(notMark)
	return w.part(p.L[0], closeness(notOp), deep+1)
}

// both parts, with the mark between them. The part behind it must be closer than p, or
// it would go to the part ahead.
func (w *writer) both(p Pred, mark string, deep int) bool {
	if p.ID != 0 || hasTerm(p) || len(p.L) != 2 {
		return false
	}
	if !w.part(p.L[0], closeness(p.Op), deep) {
		return false
	}
	w.put(mark)
	return w.part(p.L[1], closeness(p.Op)+1, deep)
}

// part that must be so close, or it stands in brackets.
func (w *writer) part(p Pred, least, deep int) bool {
	if closeness(p.Op) >= least {
		return w.write(p, deep)
	}
	w.put(openMark)
	is := w.write(p, deep+1)
	w.put(shutMark)
	return is
}

// closeness with which a text holds together.
func closeness(op string) int {
	switch op {
	case orOp:
		return 0
	case andOp:
		return 1
	}
	return 2
}
