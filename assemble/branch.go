package assemble

import (
	"slices"

	"shredcol/api"
)

// branch of the schema: a node, and the readers of all leaves in it.
type branch struct {
	rep     int       // the node's
	def     int       // how many ahead of it on the path are not Required
	lists   int       // how many up to it on the path, with it, are Repeated
	fields  []*branch // none: it is a leaf
	readers []*reader
}

// branchOf a node behind so many that are not Required, and so many lists.
func branchOf(n api.Node, def, lists int, cols []api.Column) *branch {
	b := &branch{rep: n.Rep, def: def, lists: lists}
	if n.Rep == api.Repeated {
		b.lists++
	}
	if n.Rep != api.Required {
		def++
	}
	if n.Kind != api.Group {
		i := slices.IndexFunc(cols, func(c api.Column) bool { return c.ID == n.ID })
		b.readers = []*reader{{Column: cols[i]}}
		return b
	}
	for _, in := range n.Sub {
		field := branchOf(in, def, b.lists, cols)
		b.fields = append(b.fields, field)
		b.readers = append(b.readers, field.readers...)
	}
	return b
}

// records, if b is the root's: all that the readers have.
func (b *branch) records() ([]api.Datum, error) {
	var l []api.Datum
	for {
		more, err := b.agree(func(r *reader) bool { return !r.ended() })
		if err != nil {
			return nil, err
		}
		if !more {
			return l, nil
		}
		d, err := b.one()
		if err != nil {
			return nil, err
		}
		l = append(l, d)
	}
}

// datum of the node, out of the readers' next entries, whose Def is not below b.def.
func (b *branch) datum() (api.Datum, error) {
	if b.rep == api.Required {
		return b.one()
	}
	there, err := b.agree(b.isIn)
	switch {
	case err != nil:
		return api.Datum{}, err
	case !there:
		return b.nothing()
	case b.rep == api.Optional:
		return b.one()
	}
	return b.list()
}

// isIn: the next entry goes on into the node.
func (b *branch) isIn(r *reader) bool { return r.def() > b.def }

// one as if the node were Required.
func (b *branch) one() (api.Datum, error) {
	if len(b.fields) == 0 {
		return api.Datum{V: b.readers[0].take()}, nil
	}
	var d api.Datum
	for _, field := range b.fields {
		f, err := field.datum()
		if err != nil {
			return api.Datum{}, err
		}
		d.F = append(d.F, f)
	}
	return d, nil
}

func (b *branch) list() (api.Datum, error) {
	var d api.Datum
	for more := true; more; {
		// Where the list goes on, its entries must go on into the node.
		if len(d.L) == api.MaxList || !b.all(b.isIn) {
			return api.Datum{}, api.ErrShape
		}
		element, err := b.one()
		if err != nil {
			return api.Datum{}, err
		}
		d.L = append(d.L, element)
		more, err = b.agree(func(r *reader) bool { return r.rep() == b.lists })
		if err != nil {
			return api.Datum{}, err
		}
	}
	return d, nil
}

// nothing: a None, or a list without elements. What comes behind can go on with none
// but the lists around it.
func (b *branch) nothing() (api.Datum, error) {
	isList := b.rep == api.Repeated
	around := b.lists
	if isList {
		around--
	}
	for _, r := range b.readers {
		r.pass()
		if r.rep() > around {
			return api.Datum{}, api.ErrShape
		}
	}
	return api.Datum{None: !isList}, nil
}

// agree on what is so of all readers, or of none of them.
func (b *branch) agree(is func(*reader) bool) (bool, error) {
	if b.all(is) {
		return true, nil
	}
	if slices.ContainsFunc(b.readers, is) {
		return false, api.ErrShape
	}
	return false, nil
}

func (b *branch) all(is func(*reader) bool) bool {
	return !slices.ContainsFunc(b.readers, func(r *reader) bool { return !is(r) })
}
