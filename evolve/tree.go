package evolve

import (
	"slices"

	"shredcol/api"
	"shredcol/schema"
)

const (
	rootID = 0
	noID   = -1 // of the node around the root
)

// bareRoot: a root without nodes, with which every schema begins.
func bareRoot() api.Node {
	return api.Node{ID: rootID, Name: "root", Rep: api.Required, Kind: api.Group}
}

// isSchema, or a root without nodes.
func isSchema(root api.Node) bool {
	bare := bareRoot()
	if len(root.Sub) > 0 {
		return schema.Valid(root) == nil
	}
	return root.ID == bare.ID && root.Name == bare.Name && root.Rep == bare.Rep && root.Kind == bare.Kind
}

// tree: a schema's nodes by their IDs.
type tree map[int]*place

// place of a node: the node without those in it, the ID of the one around it, and the
// IDs of those in it, in order.
type place struct {
	node   api.Node
	around int
	in     []int
}

func treeOf(root api.Node) tree {
	t := tree{}
	t.plant(root, noID)
	return t
}

// plant a node and those in it. (The place around it is not told of it.)
func (t tree) plant(n api.Node, around int) {
	p := &place{node: n, around: around}
	p.node.Sub = nil
	t[n.ID] = p
	for _, in := range n.Sub {
		p.in = append(p.in, in.ID)
		t.plant(in, n.ID)
	}
}

// nodeOf an ID, with those in it.
func (t tree) nodeOf(id int) api.Node {
	p := t[id]
	n := p.node
	for _, in := range p.in {
		n.Sub = append(n.Sub, t.nodeOf(in))
	}
	return n
}

// drop a node, and the groups around it that are left without nodes.
func (t tree) drop(id int) {
	around := t[id].around
	t.uproot(id)
	group := t[around]
	group.in = without(group.in, id)
	if len(group.in) == 0 && around != rootID {
		t.drop(around)
	}
}

// uproot a node and those in it. (The place around it is not told of it.)
func (t tree) uproot(id int) {
	for _, in := range t[id].in {
		t.uproot(in)
	}
	delete(t, id)
}

// move a node to that place among the others of its group.
func (t tree) move(id, to int) error {
	group := t[t[id].around]
	others := without(group.in, id)
	if to > len(others) {
		return api.ErrBound
	}
	group.in = slices.Insert(others, to, id)
	return nil
}

// without that one, as a list of its own.
func without(ids []int, id int) []int {
	return slices.DeleteFunc(slices.Clone(ids), func(other int) bool { return other == id })
}
