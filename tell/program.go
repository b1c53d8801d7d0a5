package tell

import (
	"iter"
	"slices"

	"dripstone/api"
	"dripstone/check"
)

// program is a tree that is a program, with what check finds out of it.
type program struct {
	api.Tree
	api.Notes
	tables []api.Table
}

// readProgram returns the program that a tree is, or the error.
func readProgram(t api.Tree) (*program, api.Errno) {
	if _, e := check.Program(t); e != api.OK {
		return nil, e
	}
	p := &program{Tree: t}
	p.Notes, _ = check.Look(t)
	p.tables, _ = check.Tables(t)
	return p, api.OK
}

// is says whether a node is of one of some kinds (if none is named: of any).
func (p *program) is(node int, kinds ...uint8) bool {
	return len(kinds) == 0 || slices.Contains(kinds, p.Nodes[node].Kind)
}

// isExpr says whether a node is an expr.
func (p *program) isExpr(node int) bool {
	return p.Nodes[node].Kind >= api.EqNode && p.Nodes[node].Kind <= api.ValueNode
}

// isPoint says whether a node is a point.
func (p *program) isPoint(node int) bool {
	return p.Nodes[node].Kind >= api.OnPoint && p.Nodes[node].Kind <= api.PairPoint
}

// end returns the number behind a node and all that is in it.
func (p *program) end(node int) int {
	return node + p.Nodes[node].Size
}

// kids yields the kids of a node that are of some kinds, ascending.
func (p *program) kids(node int, kinds ...uint8) iter.Seq[int] {
	return func(yield func(int) bool) {
		for kid := node + 1; kid < p.end(node); kid = p.end(kid) {
			if p.is(kid, kinds...) && !yield(kid) {
				return
			}
		}
	}
}

// main returns the TaskItem with which a program begins.
func (p *program) main() int {
	items := slices.Collect(p.kids(0, api.TaskItem))
	return items[slices.IndexFunc(items, func(item int) bool { return p.Nodes[item].Text == "main" })]
}

// blocks returns the blocks that are kids of a node.
func (p *program) blocks(node int) []int {
	return slices.Collect(p.kids(node, api.BlockNode))
}

// lattice returns the lattice of a shape, with no other tables than it names: joins look at all of them each time.
func (p *program) lattice(s api.Shape) api.Lattice {
	out := api.Lattice{Shape: s}
	for _, table := range p.tables {
		if names(s, table.Name) {
			out.Tables = append(out.Tables, table)
		}
	}
	return out
}

// names says whether a shape, or one in it, names a table.
func names(s api.Shape, table string) bool {
	return s.Name == table || slices.ContainsFunc(s.Kids, func(kid api.Shape) bool { return names(kid, table) })
}

// isNumber says whether an integer is one that exprs can have.
func isNumber(n int) bool {
	return n >= -api.MaxNumber && n <= api.MaxNumber
}
