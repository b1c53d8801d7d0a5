package check

import (
	"iter"
	"slices"

	"dripstone/api"
)

// exists says whether there is a node with a number.
func (v *view) exists(node int) bool {
	return node >= 0 && node < len(v.Nodes)
}

// is says whether there is a node with a number, and it is of one of some kinds (if none is named: of any).
func (v *view) is(node int, kinds ...uint8) bool {
	return v.exists(node) && (len(kinds) == 0 || slices.Contains(kinds, v.Nodes[node].Kind))
}

// isFrom says whether there is a node with a number, and its kind is one of those from one to another one.
func (v *view) isFrom(node int, from, to uint8) bool {
	return v.exists(node) && v.Nodes[node].Kind >= from && v.Nodes[node].Kind <= to
}

// isShape, isStmt, isExpr and isDeclaration say whether there is a node with a number that is one.
func (v *view) isShape(node int) bool {
	return v.isFrom(node, api.FlagType, api.PairType)
}

func (v *view) isStmt(node int) bool {
	return v.isFrom(node, api.NewStmt, api.FailStmt)
}

func (v *view) isExpr(node int) bool {
	return v.isFrom(node, api.EqNode, api.ValueNode)
}

func (v *view) isDeclaration(node int) bool {
	return v.is(node, api.ParamNode, api.NewStmt, api.ShareStmt, api.LetStmt, api.BindNode)
}

// end returns the number behind a node and all that is in it.
func (v *view) end(node int) int {
	return node + v.Nodes[node].Size
}

// kids yields the kids of a node that are of some kinds, ascending.
func (v *view) kids(node int, kinds ...uint8) iter.Seq[int] {
	return func(yield func(int) bool) {
		for kid := node + 1; kid < v.end(node); kid = v.end(kid) {
			if v.is(kid, kinds...) && !yield(kid) {
				return
			}
		}
	}
}

// below yields the nodes in a node that are of some kinds, ascending.
func (v *view) below(node int, kinds ...uint8) iter.Seq[int] {
	return func(yield func(int) bool) {
		for n := node + 1; n < v.end(node); n++ {
			if v.is(n, kinds...) && !yield(n) {
				return
			}
		}
	}
}

// block returns the first block of a node, or -1.
func (v *view) block(node int) int {
	for block := range v.kids(node, api.BlockNode) {
		return block
	}
	return -1
}

// sites yields the sites of a task, ascending.
func (v *view) sites(task int) iter.Seq[int] {
	return v.below(task, api.NewStmt, api.ShareStmt, api.SpawnStmt, api.WhenStmt, api.EachStmt, api.AllStmt, api.FreezeStmt)
}

// pools yields the pools of a node, the innermost one first.
func (v *view) pools(node int) iter.Seq[int] {
	return func(yield func(int) bool) {
		for pool := v.inner[node]; pool >= 0 && yield(pool); {
			pool = v.inner[pool]
		}
	}
}

// points yields the points of a PutStmt or a WhenStmt, ascending.
func (v *view) points(stmt int) iter.Seq[int] {
	return func(yield func(int) bool) {
		for kid := range v.kids(stmt) {
			// The point of a case stands right behind it.
			if v.is(kid, api.CaseNode) {
				kid++
			}
			if !yield(kid) {
				return
			}
		}
	}
}

// params yields the types of the parameters of a UseItem or a TaskItem, in their order.
func (v *view) params(item int) iter.Seq[int] {
	return func(yield func(int) bool) {
		for kid := range v.kids(item) {
			if v.is(kid, api.BlockNode) {
				return
			}
			// The type of a ParamNode stands right behind it.
			if v.is(kid, api.ParamNode) {
				kid++
			}
			if !yield(kid) {
				return
			}
		}
	}
}

// first returns the first one of some nodes of which something holds, or -1.
func first(nodes iter.Seq[int], holds func(int) bool) int {
	for node := range nodes {
		if holds(node) {
			return node
		}
	}
	return -1
}
