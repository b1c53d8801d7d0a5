package check

import (
	"iter"

	"dripstone/api"
)

// looks returns how the nodes of each kind are looked at to find out what they mean.
func looks() map[uint8]func(*view, int) int {
	return map[uint8]func(*view, int) int{
		api.PutStmt:    (*view).declaration,
		api.WhenStmt:   (*view).declaration,
		api.EachStmt:   (*view).declaration,
		api.FreezeStmt: (*view).declaration,
		api.NameNode:   (*view).declaration,
		api.SizeNode:   (*view).declaration,
		api.HasNode:    (*view).declaration,
		api.ValueNode:  (*view).declaration,
		api.SpawnStmt:  (*view).callee,
		api.NamedType:  (*view).lattice,
		api.AboveNode:  (*view).sister,
		api.NamePoint:  (*view).pointed,
	}
}

// meaning returns what a node means, or -1.
func (v *view) meaning(node int) int {
	look, ok := v.looks[v.Nodes[node].Kind]
	if !ok {
		return -1
	}
	return look(v, node)
}

// nameError returns the error of the name of a node.
func (v *view) nameError(node int) api.Errno {
	namesake := func(other int) bool { return other < node && v.Nodes[other].Text == v.Nodes[node].Text }
	if first(v.peers(node), namesake) >= 0 {
		return api.ErrTwice
	}
	// What a NamePoint means depends on a type.
	if _, named := v.looks[v.Nodes[node].Kind]; named && v.Means[node] < 0 && !v.is(node, api.NamePoint) {
		return api.ErrName
	}
	return api.OK
}

// peers yields the nodes no two of which may have the same Text, if a node is one of them.
func (v *view) peers(node int) iter.Seq[int] {
	switch {
	case v.is(node, api.LatticeItem):
		return v.kids(0, api.LatticeItem)
	case v.is(node, api.UseItem, api.TaskItem):
		return v.kids(0, api.UseItem, api.TaskItem)
	case v.is(node, api.ElemNode):
		return v.kids(v.ups[node])
	case v.isDeclaration(node):
		return v.declarations(v.tops[node])
	}
	return func(func(int) bool) {}
}

// declarations yields the declarations of a task, ascending.
func (v *view) declarations(task int) iter.Seq[int] {
	return func(yield func(int) bool) {
		for node := task + 1; node < v.end(task); node++ {
			if v.isDeclaration(node) && !yield(node) {
				return
			}
		}
	}
}

// sight yields the declarations that are in sight at a node of a task, ascending.
func (v *view) sight(node int) iter.Seq[int] {
	return func(yield func(int) bool) {
		for d := range v.declarations(v.tops[node]) {
			if from, to := v.reach(d); from <= node && node < to && !yield(d) {
				return
			}
		}
	}
}

// reach returns from which node on a declaration is in sight, and before which one this ends. (Between a ParamNode, or the BindNode of an EachStmt, and the block behind it stands nothing that could mean it.)
func (v *view) reach(d int) (from, to int) {
	stmt := d
	if v.is(v.ups[d], api.FreezeStmt) {
		stmt = v.ups[d]
	}
	return v.end(stmt), v.end(v.ups[stmt])
}

// named returns the first one of some nodes whose Text is that of a node, or -1.
func (v *view) named(node int, among iter.Seq[int]) int {
	return first(among, func(other int) bool { return v.Nodes[other].Text == v.Nodes[node].Text })
}

// declaration returns the declaration that a name of a task means, or -1.
func (v *view) declaration(node int) int {
	return v.named(node, v.sight(node))
}

// callee returns the UseItem or TaskItem that a SpawnStmt means, or -1.
func (v *view) callee(node int) int {
	return v.named(node, v.kids(0, api.UseItem, api.TaskItem))
}

// lattice returns the LatticeItem that a NamedType means, or -1.
func (v *view) lattice(node int) int {
	return v.named(node, v.kids(0, api.LatticeItem))
}

// sister returns the ElemNode that an AboveNode means, or -1.
func (v *view) sister(node int) int {
	return v.named(node, v.kids(v.tops[node]))
}

// pointed returns the ElemNode that a NamePoint means, or -1: that of the table for which it stands, if it is not the bottom.
func (v *view) pointed(node int) int {
	shape, _ := v.shapeAt(node)
	if shape.Kind != api.ShapeNamed {
		return -1
	}
	item := first(v.kids(0, api.LatticeItem), func(item int) bool { return v.Nodes[item].Text == shape.Name })
	if item < 0 {
		return -1
	}
	bottom := item + 1
	if e := v.named(node, v.kids(item)); e != bottom {
		return e
	}
	return -1
}
