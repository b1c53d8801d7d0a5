package check

import (
	"dripstone/api"
	"dripstone/parse"
)

// view is a tree whose form is right, with what is found out of each of its nodes. A tree that is no module has a view, too: where something has an error there it says nothing.
type view struct {
	api.Tree
	api.Notes
	ups    []int // the node whose kid it is, -1 of the program
	tops   []int // the item in which it is, or that it is, -1 of the program
	levels []int // the level to which it belongs, -1 outside of the params and blocks of tasks
	inner  []int // its innermost pool, -1 if it has none
	tables []api.Table
	looks  map[uint8]func(*view, int) int       // what nodes of a kind mean
	rules  map[uint8]func(*view, int) api.Errno // what type nodes of a kind must have
}

// module returns the view of a module, or its error with the node.
func module(t api.Tree) (*view, int, api.Errno) {
	if e := parse.Check(t); e != api.OK {
		return nil, 0, e
	}
	v := newView(t)
	if node, e := v.moduleError(); e != api.OK {
		return nil, node, e
	}
	return v, 0, api.OK
}

// newView finds out of a tree whose form is right what there is to know of each node.
func newView(t api.Tree) *view {
	n := len(t.Nodes)
	v := &view{
		Tree:  t,
		Notes: api.Notes{Means: unknown(n), Types: make([]api.Type, n), Sites: unknown(n), Pools: make([]int, n)},
		ups:   unknown(n), tops: unknown(n), levels: unknown(n), inner: unknown(n),
		looks: looks(), rules: rules(),
	}
	for node := range t.Nodes {
		v.placeKids(node)
	}
	// What a node means, and declares, depends on what smaller nodes do, but on the places of all.
	for node := range t.Nodes {
		v.Means[node] = v.meaning(node)
		v.Types[node] = v.declared(node)
	}
	for task := range v.kids(0, api.TaskItem) {
		number := 0
		for site := range v.sites(task) {
			v.Sites[site] = number
			number++
		}
	}
	for item := range v.kids(0, api.LatticeItem) {
		v.tables = append(v.tables, v.table(item))
	}
	return v
}

// unknown returns so many times -1.
func unknown(n int) []int {
	out := make([]int, n)
	for i := range out {
		out[i] = -1
	}
	return out
}

// placeKids finds out where the kids of a node are.
func (v *view) placeKids(node int) {
	level, pool := v.inside(node)
	for kid := range v.kids(node) {
		v.ups[kid] = node
		v.tops[kid] = v.tops[node]
		if node == 0 {
			v.tops[kid] = kid
		}
		v.levels[kid], v.inner[kid] = level, pool
		if pool >= 0 {
			v.Pools[kid] = v.Pools[pool] + 1
		}
	}
}

// inside returns the level and the innermost pool of the kids of a node.
func (v *view) inside(node int) (level, pool int) {
	up := v.ups[node]
	switch {
	case v.is(node, api.TaskItem):
		return node, -1
	case v.is(node, api.BlockNode) && v.is(up, api.EachStmt):
		return up, -1
	case v.is(node, api.BlockNode) && v.is(up, api.AllStmt):
		return v.levels[node], up
	}
	return v.levels[node], v.inner[node]
}
