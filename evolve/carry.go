package evolve

import (
	"slices"

	"shredcol/api"
	"shredcol/data"
	"shredcol/schema"
)

// Same but for names and places?
func Same(a, b api.Node) bool {
	// Lists that are shared may make more nodes than could ever be gone through, so what
	// is no schema is not looked at.
	if !isSchema(a) || !isSchema(b) {
		return false
	}
	was := treeOf(a)
	for id, now := range treeOf(b) {
		if p, has := was[id]; has && !p.mayBecome(now) {
			return false
		}
	}
	return true
}

func (p *place) mayBecome(now *place) bool {
	a, b := p.node, now.node
	kind := a.Kind == b.Kind || a.Kind == api.Int && b.Kind == api.Long
	rep := a.Rep == b.Rep || a.Rep == api.Required && b.Rep == api.Optional
	return kind && rep && p.around == now.around
}

// Carry a record.
func Carry(from, to api.Node, d api.Datum) (api.Datum, error) {
	if err := data.Check(from, d); err != nil {
		return api.Datum{}, err
	}
	if err := schema.Valid(to); err != nil {
		return api.Datum{}, err
	}
	if !Same(from, to) {
		return api.Datum{}, api.ErrKind
	}
	return treeOf(from).carry(to, d), nil
}

// carry what is there of a node of the tree's to that node as it is now.
func (t tree) carry(to api.Node, d api.Datum) api.Datum {
	switch {
	case to.Rep == api.Repeated:
		return api.Datum{L: t.carryList(to, d.L)}
	case d.None:
		return api.Datum{None: true}
	}
	return t.carryOne(to, d)
}

func (t tree) carryList(to api.Node, l []api.Datum) []api.Datum {
	var out []api.Datum
	for _, element := range l {
		out = append(out, t.carryOne(to, element))
	}
	return out
}

// carryOne as if the node were Required.
func (t tree) carryOne(to api.Node, d api.Datum) api.Datum {
	if to.Kind != api.Group {
		// An Int's number is the same as a Long's.
		return api.Datum{V: api.Value{Kind: to.Kind, N: d.V.N, S: d.V.S}}
	}
	was := t[to.ID].in
	var fields []api.Datum
	for _, in := range to.Sub {
		// What the tree has, it has in the same group: the schemas are Same.
		if i := slices.Index(was, in.ID); i >= 0 {
			fields = append(fields, t.carry(in, d.F[i]))
		} else {
			fields = append(fields, unheardOf(in))
		}
	}
	return api.Datum{F: fields}
}

// unheardOf: what is told of a node that was not there when the record was made.
func unheardOf(n api.Node) api.Datum {
	switch {
	case n.Rep == api.Optional:
		return api.Datum{None: true}
	case n.Rep == api.Repeated:
		return api.Datum{}
	case n.Kind != api.Group:
		return api.Datum{V: api.Value{Kind: n.Kind}}
	}
	var fields []api.Datum
	for _, in := range n.Sub {
		fields = append(fields, unheardOf(in))
	}
	return api.Datum{F: fields}
}
