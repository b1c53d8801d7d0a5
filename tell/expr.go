package tell

import (
	"slices"

	"dripstone/api"
)

// value is what a name stands for: an integer, the number of a variable, or the value of one that was frozen.
type value struct {
	n int
	e api.Elem
}

// fault is where an expr fails, and the number with which it does; without a number none fails.
type fault struct {
	node, n int
}

// Numbers with which exprs fail.
const (
	byZero    = -1
	outOfSize = -2
)

// reckoner works out the exprs and points of a statement by what the names of a task stand for. The first part that fails is kept; what is worked out behind it means nothing.
type reckoner struct {
	*program
	names map[int]value
	fault fault
}

// fail keeps the number with which an expr fails.
func (r *reckoner) fail(node, n int) int {
	if r.fault.n == 0 {
		r.fault = fault{node, n}
	}
	return 0
}

// integers returns the integers of the exprs that are kids of a node, left to right.
func (r *reckoner) integers(node int) []int {
	var out []int
	for kid := range r.kids(node) {
		if r.isExpr(kid) {
			out = append(out, r.integer(kid))
		}
	}
	return out
}

// integer returns the integer of an expr; of a name that stands for a variable this one's number.
func (r *reckoner) integer(expr int) int {
	kids := r.integers(expr)
	named := r.names[r.Means[expr]]
	switch r.Nodes[expr].Kind {
	case api.NumNode:
		return r.Nodes[expr].N
	case api.NameNode:
		return named.n
	case api.SizeNode:
		return len(named.e.Keys)
	case api.HasNode:
		return bit(slices.Contains(named.e.Keys, kids[0]))
	case api.ValueNode:
		if named.e.Kind == api.ElemNone {
			return kids[0]
		}
		return named.e.N
	case api.NegNode:
		return r.sized(expr, -kids[0])
	}
	return r.both(expr, kids[0], kids[1])
}

// both returns the integer of an expr with two kids.
func (r *reckoner) both(expr, a, b int) int {
	switch r.Nodes[expr].Kind {
	case api.EqNode:
		return bit(a == b)
	case api.NeNode:
		return bit(a != b)
	case api.LtNode:
		return bit(a < b)
	case api.LeNode:
		return bit(a <= b)
	case api.GtNode:
		return bit(a > b)
	case api.GeNode:
		return bit(a >= b)
	case api.AddNode:
		return r.sized(expr, a+b)
	case api.SubNode:
		return r.sized(expr, a-b)
	case api.MulNode:
		return r.sized(expr, a*b)
	}
	if b == 0 {
		return r.fail(expr, byZero)
	}
	return a / b
}

// sized returns an integer; if it is too great, or too small, the expr fails.
func (r *reckoner) sized(expr, n int) int {
	if !isNumber(n) {
		return r.fail(expr, outOfSize)
	}
	return n
}

// bit returns 1 if something holds, otherwise 0.
func bit(holds bool) int {
	if holds {
		return 1
	}
	return 0
}
