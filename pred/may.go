package pred

import (
	"shredcol/api"
	"shredcol/stats"
)

// Known of a leaf.
type Known struct {
	ID    int
	Stats stats.Stats
}

// May some record satisfy it?
func May(p Pred, known []Known, records int) bool {
	if records < 1 {
		return false
	}
	g := &guess{known: map[int]stats.Stats{}, left: api.MaxText}
	for _, k := range known {
		if _, has := g.known[k.ID]; !has {
			g.known[k.ID] = k.Stats
		}
	}
	return g.may(p, true)
}

// guess by what is known of leaves, by their IDs.
type guess struct {
	known map[int]stats.Stats
	left  int // Preds that are looked at: no text has more, and there may be any number
}

// may some record satisfy p, or (want is false) not satisfy it? What cannot be told may
// be.
func (g *guess) may(p Pred, want bool) bool {
	if g.left == 0 {
		return true
	}
	g.left--
	known, isKnown := g.known[p.ID]
	switch {
	case p.Op == termOp:
		return !isKnown || mayTerm(p, known, want)
	case p.Op == nullOp:
		return !isKnown || mayNull(known, want)
	case p.Op == notOp && len(p.L) == 1:
		return g.may(p.L[0], !want)
	case p.Op == andOp && len(p.L) == 2:
		return g.both(p.L, want, want)
	case p.Op == orOp && len(p.L) == 2:
		return g.both(p.L, want, !want)
	}
	return true
}

// both must be so (all), or one of them.
func (g *guess) both(l []Pred, want, all bool) bool {
	if first := g.may(l[0], want); first != all {
		return first
	}
	return g.may(l[1], want)
}

func mayNull(known stats.Stats, want bool) bool {
	if want {
		return known.Nulls != 0
	}
	return known.Has
}

// mayTerm: a record that does not satisfy it has no value, or, where each record has
// one, a value that stands the other way.
func mayTerm(p Pred, known stats.Stats, want bool) bool {
	how := p.How
	if !want {
		if !known.Has || known.Nulls != 0 {
			return true
		}
		how = opposite(how)
	}
	may, err := stats.May(known, how, p.V)
	// What stats.May has an error of it does not rule out.
	return may || err != nil
}

// opposite: values that do not stand so stand that way.
func opposite(how string) string {
	switch how {
	case "<":
		return ">="
	case "<=":
		return ">"
	case "=":
		return "!="
	case "!=":
		return "="
	case ">":
		return "<="
	case ">=":
		return "<"
	}
	return ""
}
