package schema

import (
	"slices"

	"shredcol/api"
)

// Leaf of a schema.
type Leaf struct {
	ID, Kind, MaxRep, MaxDef int
	Path                     []int
}

// Leaves in order.
func Leaves(root api.Node) ([]Leaf, error) {
	if err := Valid(root); err != nil {
		return nil, err
	}
	var l []Leaf
	walk(root, nil, func(n api.Node, around []api.Node) bool {
		if isLeaf(n) {
			l = append(l, leafOf(n, around[1:]))
		}
		return true
	})
	return l, nil
}

func isLeaf(n api.Node) bool { return n.Kind != api.Group }

// leafOf a node with these nodes around it, the root aside.
func leafOf(n api.Node, around []api.Node) Leaf {
	leaf := Leaf{ID: n.ID, Kind: n.Kind}
	for _, on := range pathTo(n, around) {
		leaf.Path = append(leaf.Path, on.ID)
		if on.Rep == api.Repeated {
			leaf.MaxRep++
		}
		if on.Rep != api.Required {
			leaf.MaxDef++
		}
	}
	return leaf
}

func pathTo(n api.Node, around []api.Node) []api.Node {
	return slices.Concat(around, []api.Node{n})
}

// Find a node.
func Find(root api.Node, id int) (api.Node, error) {
	if err := Valid(root); err != nil {
		return api.Node{}, err
	}
	var last api.Node
	through := walk(root, nil, func(n api.Node, _ []api.Node) bool {
		last = n
		return n.ID != id
	})
	if through {
		return api.Node{}, api.ErrNone
	}
	return copyOf(last, func(int) bool { return true }), nil
}

// copyOf a node, with those of the nodes in it that are to stay, and with lists of
// its own.
func copyOf(n api.Node, stays func(id int) bool) api.Node {
	var sub []api.Node
	for _, in := range n.Sub {
		if stays(in.ID) {
			sub = append(sub, copyOf(in, stays))
		}
	}
	n.Sub = sub
	return n
}

// Under a node: its leaves.
func Under(root api.Node, id int) ([]int, error) {
	n, err := Find(root, id)
	if err != nil {
		return nil, err
	}
	var ids []int
	walk(n, nil, func(in api.Node, _ []api.Node) bool {
		if isLeaf(in) {
			ids = append(ids, in.ID)
		}
		return true
	})
	return ids, nil
}

// Project a schema.
func Project(root api.Node, ids []int) (api.Node, error) {
	if err := Valid(root); err != nil {
		return api.Node{}, err
	}
	all := idsOf(root)
	asked := idSet{}
	for _, id := range ids {
		if !all.has(id) {
			return api.Node{}, api.ErrNone
		}
		asked.add(id)
	}
	out := copyOf(root, staying(root, asked).has)
	if len(out.Sub) == 0 {
		return api.Node{}, api.ErrShape
	}
	return out, nil
}

type idSet map[int]struct{}

func (s idSet) has(id int) bool {
	_, is := s[id]
	return is
}

func (s idSet) add(id int) { s[id] = struct{}{} }

func idsOf(root api.Node) idSet {
	all := idSet{}
	walk(root, nil, func(n api.Node, _ []api.Node) bool {
		all.add(n.ID)
		return true
	})
	return all
}

// staying: the nodes on the path to one that is asked for or stands in such a one.
func staying(root api.Node, asked idSet) idSet {
	stay := idSet{}
	walk(root, nil, func(n api.Node, around []api.Node) bool {
		path := pathTo(n, around)
		if slices.ContainsFunc(path, func(on api.Node) bool { return asked.has(on.ID) }) {
			for _, on := range path {
				stay.add(on.ID)
			}
		}
		return true
	})
	return stay
}
