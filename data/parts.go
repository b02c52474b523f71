package data

import (
	"slices"

	"shredcol/api"
	"shredcol/schema"
)

// Cut a record.
func Cut(root api.Node, ids []int, d api.Datum) (api.Datum, error) {
	if err := Check(root, d); err != nil {
		return api.Datum{}, err
	}
	part, err := schema.Project(root, ids)
	if err != nil {
		return api.Datum{}, err
	}
	return cut(root, part, d), nil
}

// cut what is right for n to what is right for part, the same node with fewer in it.
func cut(n, part api.Node, d api.Datum) api.Datum {
	switch {
	case n.Rep == api.Repeated:
		return api.Datum{L: cutList(n, part, d.L)}
	case d.None:
		return api.Datum{None: true}
	}
	return cutOne(n, part, d)
}

func cutList(n, part api.Node, l []api.Datum) []api.Datum {
	var out []api.Datum
	for _, element := range l {
		out = append(out, cutOne(n, part, element))
	}
	return out
}

func cutOne(n, part api.Node, d api.Datum) api.Datum {
	out := api.Datum{V: d.V}
	for _, in := range part.Sub {
		i := placeOf(n, in.ID)
		out.F = append(out.F, cut(n.Sub[i], in, d.F[i]))
	}
	return out
}

// placeOf a node among those that stand in the group.
func placeOf(group api.Node, id int) int {
	return slices.IndexFunc(group.Sub, func(n api.Node) bool { return n.ID == id })
}

// Walk through the values of a leaf.
func Walk(root api.Node, d api.Datum, id int) ([]api.Value, error) {
	if err := Check(root, d); err != nil {
		return nil, err
	}
	leaves, err := schema.Leaves(root)
	if err != nil {
		return nil, err
	}
	i := slices.IndexFunc(leaves, func(leaf schema.Leaf) bool { return leaf.ID == id })
	if i < 0 {
		return nil, api.ErrNone
	}
	return values(nil, root, d, leaves[i].Path), nil
}

// values behind those of l: those at the end of the path, which goes on from n.
func values(l []api.Value, n api.Node, d api.Datum, path []int) []api.Value {
	for _, one := range ones(n, d) {
		if len(path) == 0 {
			l = append(l, one.V)
			continue
		}
		i := placeOf(n, path[0])
		l = values(l, n.Sub[i], one.F[i], path[1:])
	}
	return l
}

// ones: what there is, each as if the node were Required.
func ones(n api.Node, d api.Datum) []api.Datum {
	switch {
	case n.Rep == api.Repeated:
		return d.L
	case d.None:
		return nil
	}
	return []api.Datum{d}
}
