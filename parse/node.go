package parse

import (
	"iter"
	"slices"

	"dripstone/api"
)

// above yields the nodes in which a node is, from the nearest one to the program.
func above(nodes []api.TreeNode, node int) iter.Seq[int] {
	return func(yield func(int) bool) {
		for up := node - 1; up >= 0; up-- {
			if up+nodes[up].Size > node && !yield(up) {
				return
			}
		}
	}
}

// Kids returns the kids of a node, ascending.
func Kids(t api.Tree, node int) ([]int, api.Errno) {
	if e := checked(t, node); e != api.OK {
		return nil, e
	}
	kids, _ := kidsOf(t.Nodes, node)
	return kids, api.OK
}

// Up returns the node whose kid a node is, -1 of the program.
func Up(t api.Tree, node int) (int, api.Errno) {
	if e := checked(t, node); e != api.OK {
		return 0, e
	}
	for up := range above(t.Nodes, node) {
		return up, api.OK
	}
	return -1, api.OK
}

// Path returns which kid of which a node is, from the program on.
func Path(t api.Tree, node int) ([]int, api.Errno) {
	if e := checked(t, node); e != api.OK {
		return nil, e
	}
	var path []int
	for up := range above(t.Nodes, node) {
		kids, _ := kidsOf(t.Nodes, up)
		path = append(path, slices.Index(kids, node))
		node = up
	}
	slices.Reverse(path)
	return path, api.OK
}

// Node returns the node with a path.
func Node(t api.Tree, path []int) (int, api.Errno) {
	if e := Check(t); e != api.OK {
		return 0, e
	}
	node := 0
	for _, i := range path {
		kids, _ := kidsOf(t.Nodes, node)
		if i < 0 || i >= len(kids) {
			return 0, api.ErrNone
		}
		node = kids[i]
	}
	return node, api.OK
}

// Sub returns the nodes of a node, with all below it.
func Sub(t api.Tree, node int) ([]api.TreeNode, api.Errno) {
	if e := checked(t, node); e != api.OK {
		return nil, e
	}
	return slices.Clone(t.Nodes[node : node+t.Nodes[node].Size]), api.OK
}

// Splice returns the tree in which other nodes stand in the place of a node and of all below it.
func Splice(t api.Tree, node int, by []api.TreeNode) (api.Tree, api.Errno) {
	if e := checked(t, node); e != api.OK {
		return api.Tree{}, e
	}
	if len(by) > api.MaxNodes {
		return api.Tree{}, api.ErrLimit
	}
	size := t.Nodes[node].Size
	nodes := slices.Concat(t.Nodes[:node], by, t.Nodes[node+size:])
	for up := range above(t.Nodes, node) {
		nodes[up].Size += len(by) - size
	}
	out := api.Tree{Nodes: nodes}
	if e := Check(out); e != api.OK {
		return api.Tree{}, e
	}
	return out, api.OK
}

// Same says whether two trees are equal but for places.
func Same(a, b api.Tree) (bool, api.Errno) {
	if e := Check(a); e != api.OK {
		return false, e
	}
	if e := Check(b); e != api.OK {
		return false, e
	}
	same := func(x, y api.TreeNode) bool {
		x.At, y.At = 0, 0
		return x == y
	}
	return slices.EqualFunc(a.Nodes, b.Nodes, same), api.OK
}
