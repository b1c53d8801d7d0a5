package parse

import (
	"strconv"
	"strings"

	"dripstone/api"
)

// printer prints the nodes of a tree.
type printer struct {
	api.Tree
	out  strings.Builder
	deep int // how many blocks the line stands in
}

// Print returns the text of a tree.
func Print(t api.Tree) (string, api.Errno) {
	return Show(t, 0)
}

// Show returns the text of a node.
func Show(t api.Tree, node int) (string, api.Errno) {
	if e := checked(t, node); e != api.OK {
		return "", e
	}
	p := printer{Tree: t}
	p.node(node)
	if p.out.Len() > api.MaxText {
		return "", api.ErrLimit
	}
	return p.out.String(), api.OK
}

// write prints texts.
func (p *printer) write(texts ...string) {
	for _, text := range texts {
		p.out.WriteString(text)
	}
}

// kids returns the kids of a node.
func (p *printer) kids(node int) []int {
	kids, _ := kidsOf(p.Nodes, node)
	return kids
}

// list prints nodes, with a text between two.
func (p *printer) list(between string, nodes []int) {
	for i, node := range nodes {
		if i > 0 {
			p.write(between)
		}
		p.node(node)
	}
}

// enclosed prints the kids of a node, with a text before them, between two, and behind them.
func (p *printer) enclosed(node int, before, between, behind string) {
	p.write(before)
	p.list(between, p.kids(node))
	p.write(behind)
}

// line begins a line.
func (p *printer) line() {
	p.write("\n", strings.Repeat("  ", p.deep))
}

// node prints a node, without a line feed at its end unless it is the program.
func (p *printer) node(node int) {
	n := p.Nodes[node]
	switch n.Kind {
	case api.ProgramNode:
		for _, kid := range p.kids(node) {
			p.node(kid)
			p.write("\n")
		}
	case api.LatticeItem:
		p.enclosed(node, "lattice "+n.Text+" { ", "; ", " }")
	case api.UseItem:
		p.enclosed(node, "use "+n.Text+"(", ", ", ");")
	case api.TaskItem:
		kids := p.kids(node)
		p.write("task ", n.Text, "(")
		p.list(", ", kids[:len(kids)-1])
		p.write(") ")
		p.node(kids[len(kids)-1])
	case api.ElemNode:
		p.elem(node)
	case api.ParamNode:
		p.enclosed(node, n.Text+": ", "", "")
	case api.BlockNode:
		p.block(node)
	case api.CaseNode:
		p.enclosed(node, "", " ", "")
	case api.AboveNode, api.BindNode, api.NamedType:
		p.write(n.Text)
	case api.MapType:
		p.enclosed(node, "map(", ", ", ")")
	case api.PairType:
		p.enclosed(node, "pair(", ", ", ")")
	default:
		p.stmt(node)
	}
}

// elem prints an element of a table.
func (p *printer) elem(node int) {
	p.write(p.Nodes[node].Text)
	if p.Nodes[node].N == 1 {
		p.write("!")
	}
	if p.Nodes[node].Size > 1 {
		p.enclosed(node, ": ", ", ", "")
	}
}

// block prints a block.
func (p *printer) block(node int) {
	p.write("{")
	p.deep++
	for _, kid := range p.kids(node) {
		p.line()
		p.node(kid)
	}
	p.deep--
	p.line()
	p.write("}")
}

// stmt prints a statement, or a node of which there are some in a statement alone.
func (p *printer) stmt(node int) {
	n := p.Nodes[node]
	switch n.Kind {
	case api.NewStmt:
		p.enclosed(node, "new "+n.Text+": ", "", ";")
	case api.ShareStmt:
		p.enclosed(node, "share "+n.Text+": ", "", ";")
	case api.LetStmt:
		p.enclosed(node, "let "+n.Text+" = ", "", ";")
	case api.PutStmt:
		p.enclosed(node, "put "+n.Text+" ", "", ";")
	case api.SpawnStmt:
		p.enclosed(node, "spawn "+n.Text+"(", ", ", ");")
	case api.WhenStmt:
		p.enclosed(node, "when "+n.Text+" ", " or ", "")
	case api.EachStmt:
		p.enclosed(node, "each "+n.Text+" as ", " ", "")
	case api.AllStmt:
		p.enclosed(node, "all ", "", "")
	case api.FreezeStmt:
		p.enclosed(node, "freeze "+n.Text+" as ", "", ";")
	case api.IfStmt:
		kids := p.kids(node)
		p.write("if ")
		p.list(" ", kids[:2])
		if len(kids) == 3 {
			p.write(" else ")
			p.node(kids[2])
		}
	case api.FailStmt:
		p.enclosed(node, "fail ", "", ";")
	default:
		p.point(node)
	}
}

// point prints a point, or a node that is none of those with a case of their own.
func (p *printer) point(node int) {
	n := p.Nodes[node]
	switch n.Kind {
	case api.IntPoint:
		p.enclosed(node, "", "", "")
	case api.SetPoint:
		p.enclosed(node, "{", ", ", "}")
	case api.NamePoint:
		p.write("#", n.Text)
	case api.KeyPoint:
		kids := p.kids(node)
		p.write("[")
		p.node(kids[0])
		p.write("] ")
		p.node(kids[1])
	case api.PairPoint:
		p.sides(node)
	default:
		p.expr(node)
	}
}

// sides prints a pair point, whose N says which sides it has.
func (p *printer) sides(node int) {
	switch p.Nodes[node].N {
	case 1:
		p.enclosed(node, "pair(", "", ", )")
	case 2:
		p.enclosed(node, "pair(, ", "", ")")
	default:
		p.enclosed(node, "pair(", ", ", ")")
	}
}

// expr prints an expr, without brackets around it, or a word that is a node.
func (p *printer) expr(node int) {
	n := p.Nodes[node]
	switch n.Kind {
	case api.NegNode:
		p.write("-")
		p.operand(node+1, unaryLevel)
	case api.NumNode:
		p.write(strconv.Itoa(n.N))
	case api.NameNode:
		p.write(n.Text)
	case api.SizeNode:
		p.write("size(", n.Text, ")")
	case api.HasNode:
		p.enclosed(node, "has("+n.Text+", ", "", ")")
	case api.ValueNode:
		p.enclosed(node, "value("+n.Text+", ", "", ")")
	default:
		if word, ok := spelled(n.Kind); ok {
			p.write(word)
		} else {
			p.binary(node)
		}
	}
}

// binary prints two operands with the operator between them.
func (p *printer) binary(node int) {
	o, _ := operatorOf(p.Nodes[node].Kind)
	kids := p.kids(node)
	left := o.level
	// Sums and terms are read from left to right; a comparison is no operand of a comparison.
	if o.level == compareLevel {
		left++
	}
	p.operand(kids[0], left)
	p.write(" ", o.text, " ")
	p.operand(kids[1], o.level+1)
}

// operand prints an operand whose side needs a level: in brackets, if its own one is lower.
func (p *printer) operand(node, level int) {
	own := unaryLevel
	if o, ok := operatorOf(p.Nodes[node].Kind); ok {
		own = o.level
	}
	if own >= level {
		p.node(node)
		return
	}
	p.write("(")
	p.node(node)
	p.write(")")
}
