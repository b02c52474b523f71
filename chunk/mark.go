package chunk

import (
	"shredcol/api"
	"shredcol/page"
	"shredcol/schema"
	"shredcol/shred"
	"shredcol/stats"
)

// Mark of a page.
type Mark struct {
	At, Len, First, Records int
	Stats                   stats.Stats
}

// Marks of all pages.
func Marks(leaf schema.Leaf, s string) ([]Mark, error) {
	var l []Mark
	first := 0
	err := eachPage(leaf, s, func(at, size int, c api.Column) error {
		known, err := stats.Of(leaf, c)
		if err != nil {
			return err
		}
		m := Mark{At: at, Len: size, First: first, Records: shred.Count(c), Stats: known}
		first += m.Records
		l = append(l, m)
		return nil
	})
	if err != nil {
		return nil, err
	}
	return l, nil
}

// Pick pages.
func Pick(leaf schema.Leaf, s string, marks []Mark, keep []bool) (api.Column, error) {
	if len(marks) != len(keep) {
		return api.Column{}, api.ErrShape
	}
	for _, m := range marks {
		if !m.liesIn(s) {
			return api.Column{}, api.ErrBound
		}
	}
	all := api.Column{ID: leaf.ID}
	asLong, whole := true, true
	err := eachKept(leaf, s, marks, keep, func(m Mark, size int, c api.Column) {
		asLong = asLong && size == m.Len
		whole = whole && c.Rep[0] == 0
		if asLong && whole {
			lay(&all, c)
		}
	})
	switch {
	case err != nil:
		return api.Column{}, err
	case !asLong:
		return api.Column{}, api.ErrText
	case !whole:
		return api.Column{}, api.ErrShape
	}
	return all, nil
}

// liesIn: whether the mark is of some bytes of s. No sum is made, as it might run over.
func (m Mark) liesIn(s string) bool {
	return m.Len >= 1 && m.At >= 0 && m.At <= len(s)-m.Len
}

// eachKept page that the marks, which lie in s, lead to is handed to take, in order, with
// how long it is.
func eachKept(leaf schema.Leaf, s string, marks []Mark, keep []bool, take func(m Mark, size int, c api.Column)) error {
	for i, m := range marks {
		if !keep[i] {
			continue
		}
		// Read on behind the mark's end, too: that a page is longer than its mark says is
		// told behind what is wrong with the page itself.
		c, size, err := page.Read(leaf, s[m.At:])
		if err != nil {
			return err
		}
		take(m, size, c)
	}
	return nil
}
