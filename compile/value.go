package compile

import "dripstone/api"

// words are the words of arithmetic, from EqNode to NegNode.
var words = [...]string{"eq", "ne", "lt", "le", "gt", "ge", "add", "sub", "mul", "div", "neg"}

// exprs makes the exprs that are kids of a node, from left to right, and returns the registers of their results.
func (k *maker) exprs(node int) []int {
	return collected(k.kids(node), k.expr)
}

// expr makes an expr, and returns the register of its result.
func (k *maker) expr(node int) int {
	if k.is(node, api.NameNode) {
		return k.declared(node)
	}
	if n, ok := k.constant(node); ok {
		return k.result(node, api.Ins{Op: api.OInt, N: n})
	}
	before := k.used
	kids := k.exprs(node)
	k.used = before
	return k.result(node, k.operation(node, kids))
}

// constant returns the integer of a NumNode, or of a NegNode of one, and whether an expr is one of these.
func (k *maker) constant(node int) (int, bool) {
	switch {
	case k.is(node, api.NumNode):
		return k.Nodes[node].N, true
	case k.is(node, api.NegNode) && k.is(node+1, api.NumNode):
		return -k.Nodes[node+1].N, true
	}
	return 0, false
}

// operation returns the instruction of an expr, but for its result, by the registers of its kids.
func (k *maker) operation(node int, kids []int) api.Ins {
	switch kind := k.Nodes[node].Kind; kind {
	case api.SizeNode:
		return api.Ins{Op: api.OSize, B: k.declared(node)}
	case api.HasNode:
		return api.Ins{Op: api.OHas, B: k.declared(node), C: kids[0]}
	case api.ValueNode:
		return api.Ins{Op: api.OValue, B: k.declared(node), C: kids[0]}
	case api.NegNode:
		return api.Ins{Op: api.OArith, Name: words[kind-api.EqNode], B: kids[0]}
	default:
		return api.Ins{Op: api.OArith, Name: words[kind-api.EqNode], B: kids[0], C: kids[1]}
	}
}

// point makes a point of a shape, and returns the register of its element.
func (k *maker) point(node int, s api.Shape) int {
	if k.is(node, api.SetPoint) {
		return k.set(node, k.shapeNumber(s))
	}
	before := k.used
	i := api.Ins{S: k.shapeNumber(s)}
	switch k.Nodes[node].Kind {
	case api.OnPoint:
		i.Op = api.OOn
	case api.NamePoint:
		i.Op = api.OName
		i.N = k.elementNumber(s.Name, k.Nodes[node].Text)
	case api.IntPoint:
		i.Op = api.OPoint
		i.B = k.expr(node + 1)
	case api.KeyPoint:
		i.Op = api.OKey
		i.B = k.expr(node + 1)
		i.C = k.point(k.end(node+1), s.Kids[0])
	case api.PairPoint:
		i.Op = api.OPair
		i.B, i.C = k.pair(node, s)
	}
	k.used = before
	return k.result(node, i)
}

// set makes a SetPoint of the shape with a number: the set of its first expr, into which those of all others are joined.
func (k *maker) set(node, shape int) int {
	out := -1
	for kid := range k.kids(node) {
		before := k.used
		key := k.expr(kid)
		k.used = before
		one := k.result(node, api.Ins{Op: api.OSet, S: shape, B: key})
		if out < 0 {
			out = one
			continue
		}
		k.add(node, api.Ins{Op: api.OJoin, A: out, S: shape, B: out, C: one})
		k.used = before
	}
	return out
}

// pair makes the points of a PairPoint, and returns the registers of their elements, -1 where there is none.
func (k *maker) pair(node int, s api.Shape) (first, second int) {
	first, second = -1, -1
	for kid := range k.kids(node) {
		if kid == node+1 && k.Nodes[node].N != 2 {
			first = k.point(kid, s.Kids[0])
		} else {
			second = k.point(kid, s.Kids[1])
		}
	}
	return first, second
}
