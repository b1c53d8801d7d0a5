package check_test

import (
	"math/rand"
	"slices"

	"dripstone/api"
)

// twig is a node with those below it.
type twig struct {
	api.TreeNode
	kids []*twig
}

// grown returns the twig of the ProgramNode of a tree.
func grown(u api.Tree) *twig {
	var grow func(at int) *twig
	grow = func(at int) *twig {
		x := &twig{TreeNode: u.Nodes[at]}
		for kid := at + 1; kid < at+u.Nodes[at].Size; kid += u.Nodes[kid].Size {
			x.kids = append(x.kids, grow(kid))
		}
		return x
	}
	return grow(0)
}

// tree returns the tree that a twig is.
func (x *twig) tree() api.Tree {
	var out api.Tree
	var add func(x *twig)
	add = func(x *twig) {
		at := len(out.Nodes)
		out.Nodes = append(out.Nodes, x.TreeNode)
		for _, kid := range x.kids {
			add(kid)
		}
		out.Nodes[at].Size = len(out.Nodes) - at
	}
	add(x)
	return out
}

// clone returns another twig that is the same.
func (x *twig) clone() *twig {
	out := &twig{TreeNode: x.TreeNode}
	for _, kid := range x.kids {
		out.kids = append(out.kids, kid.clone())
	}
	return out
}

// class returns a number that is the same for kinds of nodes which can stand in each other's place.
func class(kind uint8) int {
	switch {
	case kind >= api.NewStmt && kind <= api.FailStmt:
		return 1
	case kind >= api.OnPoint && kind <= api.PairPoint:
		return 2
	case kind >= api.EqNode && kind <= api.ValueNode:
		return 3
	case kind >= api.FlagType && kind <= api.PairType:
		return 4
	case kind == api.IntType:
		return 5
	}
	return 100 + int(kind)
}

// all returns a twig and all below it, and for each of them that whose kid it is.
func (x *twig) all() (nodes, ups []*twig) {
	var add func(x, up *twig)
	add = func(x, up *twig) {
		nodes, ups = append(nodes, x), append(ups, up)
		for _, kid := range x.kids {
			add(kid, x)
		}
	}
	add(x, nil)
	return nodes, ups
}

// change changes something in a twig; what comes out need not have its form.
func change(r *rand.Rand, root *twig) {
	nodes, ups := root.all()
	at := r.Intn(len(nodes))
	x, up := nodes[at], ups[at]
	// Tables would be changed too often.
	if up == nil || (x.Kind == api.ElemNode || x.Kind == api.AboveNode) && r.Intn(8) > 0 {
		return
	}
	other := nodes[r.Intn(len(nodes))]
	number := slices.Index(up.kids, x)
	switch r.Intn(9) {
	case 0, 1: // another name
		if x.Text != "" && other.Text != "" {
			x.Text = other.Text
		}
	case 2: // another part of the same class
		if class(x.Kind) == class(other.Kind) && other != root {
			up.kids[number] = other.clone()
		}
	case 3: // without it
		up.kids = slices.Delete(up.kids, number, number+1)
	case 4: // a statement more
		if other.Kind == api.BlockNode && class(x.Kind) == 1 {
			other.kids = slices.Insert(other.kids, r.Intn(len(other.kids)+1), x.clone())
		}
	case 5: // a pool around it
		if class(x.Kind) == 1 {
			block := &twig{TreeNode: api.TreeNode{Kind: api.BlockNode}, kids: []*twig{x}}
			up.kids[number] = &twig{TreeNode: api.TreeNode{Kind: api.AllStmt}, kids: []*twig{block}}
		}
	case 6: // no pool around it
		if x.Kind == api.AllStmt && len(x.kids) > 0 {
			up.kids = slices.Replace(up.kids, number, number+1, x.kids[0].kids...)
		}
	case 7: // in another place
		if class(x.Kind) == 1 {
			to := r.Intn(len(up.kids))
			up.kids[number], up.kids[to] = up.kids[to], up.kids[number]
		}
	case 8: // something else of the same form
		switch x.Kind {
		case api.NewStmt:
			x.Kind = api.ShareStmt
		case api.ShareStmt:
			x.Kind = api.NewStmt
		case api.ElemNode:
			x.N = 1 - x.N
		case api.NumNode:
			x.N = r.Intn(4)
		case api.FlagType, api.MaxType, api.SetType, api.OnceType:
			x.Kind = api.FlagType + uint8(r.Intn(4))
		}
	}
}
