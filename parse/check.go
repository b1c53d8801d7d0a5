package parse

import (
	"dripstone/api"
	"dripstone/lex"
)

// Check returns the error of a tree.
func Check(t api.Tree) api.Errno {
	if len(t.Nodes) > api.MaxNodes {
		return api.ErrLimit
	}
	if !formed(t.Nodes) {
		return api.ErrForm
	}
	if depth(t.Nodes) > api.MaxDeep {
		return api.ErrLimit
	}
	return api.OK
}

// checked returns the error of a tree, or that of a number of which it has no node.
func checked(t api.Tree, node int) api.Errno {
	if e := Check(t); e != api.OK {
		return e
	}
	if node < 0 || node >= len(t.Nodes) {
		return api.ErrNone
	}
	return api.OK
}

// formed says whether the form of a tree is right.
func formed(nodes []api.TreeNode) bool {
	if len(nodes) == 0 || nodes[0].Kind != api.ProgramNode || nodes[0].Size != len(nodes) {
		return false
	}
	names := map[string]bool{}
	for node, n := range nodes {
		// The nodes before this one are right, so that its Size is that which one of them needs.
		u, ok := ruleOf(n.Kind)
		if !ok || !u.allows(n) || !u.fits(nodes, node) {
			return false
		}
		if u.named {
			names[n.Text] = true
		}
	}
	for name := range names {
		if kind, e := lex.Kind(name); e != api.OK || kind != api.NameToken {
			return false
		}
	}
	return true
}

// allows says whether what stands in a node is right, but for whether its Text is a name.
func (u rule) allows(n api.TreeNode) bool {
	if n.At < 0 || n.At > api.MaxText {
		return false
	}
	return n.N >= u.low && n.N <= u.high && (u.named || n.Text == "")
}

// fits says whether the kids of a node are right, if its Size is that which it must be.
func (u rule) fits(nodes []api.TreeNode, node int) bool {
	kids, ok := kidsOf(nodes, node)
	if !ok || u.repeated(len(kids)) < u.least || u.repeated(len(kids)) > u.most {
		return false
	}
	for i, kid := range kids {
		k := u.kid(i, len(kids))
		if nodes[kid].Kind < k.from || nodes[kid].Kind > k.to {
			return false
		}
	}
	// Of a pair point with one side N says which one it is.
	return nodes[node].Kind != api.PairPoint || (nodes[node].N == 3) == (len(kids) == 2)
}

// kidsOf returns the kids of a node, and whether their sizes are right, if that of the node is.
func kidsOf(nodes []api.TreeNode, node int) ([]int, bool) {
	end := node + nodes[node].Size
	var out []int
	for at := node + 1; at < end; at += nodes[at].Size {
		if nodes[at].Size < 1 || nodes[at].Size > end-at {
			return nil, false
		}
		out = append(out, at)
	}
	return out, true
}

// depth returns how many nodes of a tree are one in the other at most.
func depth(nodes []api.TreeNode) int {
	deep := make([]int, len(nodes))
	most := 0
	for node := range nodes {
		deep[node]++
		most = max(most, deep[node])
		kids, _ := kidsOf(nodes, node)
		for _, kid := range kids {
			deep[kid] = deep[node]
		}
	}
	return most
}

// tooBig says whether a tree has too many nodes, or is too deep.
func tooBig(nodes []api.TreeNode) bool {
	return len(nodes) > api.MaxNodes || depth(nodes) > api.MaxDeep
}

// tooMuch returns the first node of a tree that has more of something than it may have, and whether there is one.
func tooMuch(nodes []api.TreeNode) (int, bool) {
	for node, n := range nodes {
		u, _ := ruleOf(n.Kind)
		kids, _ := kidsOf(nodes, node)
		if u.repeated(len(kids)) > u.most {
			return node, true
		}
	}
	return 0, false
}
