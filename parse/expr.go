package parse

import (
	"strconv"

	"dripstone/api"
)

// point reads a point.
func (r *reader) point() branch {
	first := r.next
	switch {
	case r.skip("on"):
		return r.made(first, api.TreeNode{Kind: api.OnPoint})
	case r.skip("#"):
		text := r.name()
		return r.made(first, api.TreeNode{Kind: api.NamePoint, Text: text})
	case r.skip("{"):
		kids := r.list(",", r.expr)
		r.read("}")
		return r.made(first, api.TreeNode{Kind: api.SetPoint}, kids...)
	case r.skip("["):
		key := r.expr()
		r.read("]")
		kid := r.point()
		return r.made(first, api.TreeNode{Kind: api.KeyPoint}, key, kid)
	case r.skip("pair"):
		n, kids := r.sides()
		return r.made(first, api.TreeNode{Kind: api.PairPoint, N: n}, kids...)
	}
	kid := r.expr()
	return r.made(first, api.TreeNode{Kind: api.IntPoint}, kid)
}

// sides reads the sides of a pair point, and says in N of its node which ones it has.
func (r *reader) sides() (int, []branch) {
	n := 0
	var kids []branch
	r.read("(")
	if !r.is(",") {
		n++
		kids = append(kids, r.point())
	}
	r.read(",")
	// Without a first side there must be a second one.
	if n == 0 || !r.is(")") {
		n += 2
		kids = append(kids, r.point())
	}
	r.read(")")
	return n, kids
}

// expr reads an expr.
func (r *reader) expr() branch {
	return r.chain(compareLevel)
}

// chain reads an expr of a level, or of one above it, without brackets around it: operands with operators between them, from left to right.
func (r *reader) chain(level int) branch {
	if level == unaryLevel {
		return r.unary()
	}
	first := r.next
	out := r.chain(level + 1)
	for {
		sign := r.next
		kind, ok := r.operator(level)
		if !ok {
			return out
		}
		right := r.chain(level + 1)
		out = r.made(first, api.TreeNode{Kind: kind}, out, right)
		out.At = r.tokens[sign].At
		if level == compareLevel {
			return out
		}
	}
}

// operator reads an operator of a level, if there is one, and returns its kind.
func (r *reader) operator(level int) (uint8, bool) {
	for _, o := range operators {
		if o.level == level && r.skip(o.text) {
			return o.kind, true
		}
	}
	return 0, false
}

// unary reads an expr that is no operand of an operator before it is read to its end.
func (r *reader) unary() branch {
	first := r.next
	if r.skip("-") {
		kid := r.unary()
		return r.made(first, api.TreeNode{Kind: api.NegNode}, kid)
	}
	return r.atom()
}

// atom reads an expr that is a token, a question, or in brackets. The brackets are no part of what they are around.
func (r *reader) atom() branch {
	first := r.next
	switch {
	case r.skip("("):
		out := r.expr()
		r.read(")")
		return out
	case r.skip("size"):
		r.read("(")
		text := r.name()
		r.read(")")
		return r.made(first, api.TreeNode{Kind: api.SizeNode, Text: text})
	case r.skip("has"):
		return r.asked(first, api.HasNode)
	case r.skip("value"):
		return r.asked(first, api.ValueNode)
	case r.token().Kind == api.NumberToken:
		// Scan gives out no number that does not fit.
		n, _ := strconv.Atoi(r.kind(api.NumberToken))
		return r.made(first, api.TreeNode{Kind: api.NumNode, N: n})
	}
	return r.named(api.NameNode)
}

// asked reads what stands behind the word of a question with a key.
func (r *reader) asked(first int, kind uint8) branch {
	r.read("(")
	text := r.name()
	r.read(",")
	key := r.expr()
	r.read(")")
	return r.made(first, api.TreeNode{Kind: kind, Text: text}, key)
}
