package parse

import "dripstone/api"

// spelling is a kind of nodes with the word, or the sign, that it is written with.
type spelling struct {
	text string
	kind uint8
}

// shapeWords are the types that are written as one word; int, which is no shape, is not among them.
var shapeWords = []spelling{
	{"flag", api.FlagType},
	{"max", api.MaxType},
	{"set", api.SetType},
	{"once", api.OnceType},
}

// The levels of exprs: an operand stands without brackets if its level is not below that which its side needs.
const (
	compareLevel = iota
	sumLevel
	termLevel
	unaryLevel
)

// operator is a sign that stands between two operands, with the level of what it makes.
type operator struct {
	spelling
	level int
}

// operators are all of them.
var operators = []operator{
	{spelling{"==", api.EqNode}, compareLevel},
	{spelling{"!=", api.NeNode}, compareLevel},
	{spelling{"<", api.LtNode}, compareLevel},
	{spelling{"<=", api.LeNode}, compareLevel},
	{spelling{">", api.GtNode}, compareLevel},
	{spelling{">=", api.GeNode}, compareLevel},
	{spelling{"+", api.AddNode}, sumLevel},
	{spelling{"-", api.SubNode}, sumLevel},
	{spelling{"*", api.MulNode}, termLevel},
	{spelling{"/", api.DivNode}, termLevel},
}

// spelled returns the text of a kind that is written as one word, and whether it is such a kind.
func spelled(kind uint8) (string, bool) {
	for _, w := range shapeWords {
		if w.kind == kind {
			return w.text, true
		}
	}
	switch kind {
	case api.IntType:
		return "int", true
	case api.OnPoint:
		return "on", true
	}
	return "", false
}

// operatorOf returns the operator of a kind, and whether there is one.
func operatorOf(kind uint8) (operator, bool) {
	for _, o := range operators {
		if o.kind == kind {
			return o, true
		}
	}
	return operator{}, false
}
