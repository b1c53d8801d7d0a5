package parse

import "dripstone/api"

// branch is a node with the part of the text that it is, and with the branches below it.
type branch struct {
	api.TreeNode
	part api.Stretch
	kids []branch
}

// flat is a tree with the part of the text that each of its nodes is.
type flat struct {
	api.Tree
	parts []api.Stretch
}

// flatten returns the tree that a branch is.
func flatten(b branch) flat {
	var f flat
	f.add(b)
	return f
}

// add puts a branch behind the nodes.
func (f *flat) add(b branch) {
	at := len(f.Nodes)
	f.Nodes = append(f.Nodes, b.TreeNode)
	f.parts = append(f.parts, b.part)
	for _, kid := range b.kids {
		f.add(kid)
	}
	f.Nodes[at].Size = len(f.Nodes) - at
}
