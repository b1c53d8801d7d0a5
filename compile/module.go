package compile

import (
	"iter"
	"slices"
	"strconv"

	"dripstone/api"
	"dripstone/check"
	"dripstone/code"
)

// module is a tree that is a module, with what check finds out of it, and its shapes.
type module struct {
	api.Tree
	api.Notes
	tables []api.Table
	shapes []api.Shape
}

// readModule returns the module that a tree is, or the error.
func readModule(t api.Tree) (*module, api.Errno) {
	notes, e := check.Look(t)
	if e != api.OK {
		return nil, e
	}
	m := &module{Tree: t, Notes: notes}
	m.tables, _ = check.Tables(t)
	for node := range m.nodes(0, api.FlagType, api.MaxType, api.SetType, api.OnceType, api.NamedType, api.MapType, api.PairType) {
		if shape := m.shape(node); m.shapeNumber(shape) < 0 {
			m.shapes = append(m.shapes, shape)
		}
	}
	return m, api.OK
}

// compiled returns the makers of all homes, which have made their segments, and the code of a module; or the error.
func compiled(t api.Tree) ([]*maker, api.Code, api.Errno) {
	m, e := readModule(t)
	if e != api.OK {
		return nil, api.Code{}, e
	}
	makers := collected(m.homes(), m.made)
	c := api.Code{
		Tables:   m.tables,
		Shapes:   m.shapes,
		Uses:     collected(m.kids(0, api.UseItem), m.use),
		Segments: collected(slices.Values(makers), func(k *maker) api.Segment { return k.Segment }),
	}
	// All that is not right in the code of a module is that there is too much of something.
	if code.Check(c) != api.OK {
		return nil, api.Code{}, api.ErrLimit
	}
	return makers, c, api.OK
}

// compiledHome returns the maker of a home, which has made its segment, or the error.
func compiledHome(t api.Tree, home int) (*maker, api.Errno) {
	m, e := readModule(t)
	if e != api.OK {
		return nil, e
	}
	for h := range m.homes() {
		if h == home {
			return m.made(home), api.OK
		}
	}
	return nil, api.ErrNone
}

// collected returns what is told of all that is yielded.
func collected[A, B any](l iter.Seq[A], tell func(A) B) []B {
	var out []B
	for x := range l {
		out = append(out, tell(x))
	}
	return out
}

// is says whether a node is of one of some kinds (if none is named: of any).
func (m *module) is(node int, kinds ...uint8) bool {
	return len(kinds) == 0 || slices.Contains(kinds, m.Nodes[node].Kind)
}

// end returns the number behind a node and all that is in it.
func (m *module) end(node int) int {
	return node + m.Nodes[node].Size
}

// nodes yields the nodes in a node that are of some kinds, ascending.
func (m *module) nodes(in int, kinds ...uint8) iter.Seq[int] {
	return func(yield func(int) bool) {
		for node := in + 1; node < m.end(in); node++ {
			if m.is(node, kinds...) && !yield(node) {
				return
			}
		}
	}
}

// kids yields the kids of a node that are of some kinds, ascending.
func (m *module) kids(of int, kinds ...uint8) iter.Seq[int] {
	return func(yield func(int) bool) {
		for kid := of + 1; kid < m.end(of); kid = m.end(kid) {
			if m.is(kid, kinds...) && !yield(kid) {
				return
			}
		}
	}
}

// homes yields the homes: each EachStmt stands behind its task, and before the next one.
func (m *module) homes() iter.Seq[int] {
	return m.nodes(0, api.TaskItem, api.EachStmt)
}

// label returns the name of the segment of a home.
func (m *module) label(home int) string {
	if m.is(home, api.TaskItem) {
		return m.Nodes[home].Text
	}
	task, eachs := "", 0
	for h := range m.homes() {
		if h == home {
			break
		}
		if m.is(h, api.TaskItem) {
			task, eachs = m.Nodes[h].Text, 0
		} else {
			eachs++
		}
	}
	return task + "." + strconv.Itoa(eachs)
}

// shape returns the shape that a node is, in new memory.
func (m *module) shape(node int) api.Shape {
	n := m.Nodes[node]
	// The kinds of nodes have the same order as those of shapes.
	out := api.Shape{Kind: n.Kind - api.FlagType + api.ShapeFlag, Name: n.Text}
	for kid := range m.kids(node) {
		out.Kids = append(out.Kids, m.shape(kid))
	}
	return out
}

// shapeNumber returns the number of a shape, or -1.
func (m *module) shapeNumber(s api.Shape) int {
	return slices.IndexFunc(m.shapes, func(other api.Shape) bool { return sameShape(s, other) })
}

// sameShape says whether two shapes are the same.
func sameShape(a, b api.Shape) bool {
	return a.Kind == b.Kind && a.Name == b.Name && slices.EqualFunc(a.Kids, b.Kids, sameShape)
}

// elementNumber returns the number of the element of a table with a name.
func (m *module) elementNumber(table, name string) int {
	for _, t := range m.tables {
		if t.Name == table {
			return slices.Index(t.Elems, name)
		}
	}
	return -1
}

// use returns the use that a UseItem is.
func (m *module) use(item int) api.Sign {
	return api.Sign{Name: m.Nodes[item].Text, Params: collected(m.kids(item), func(kid int) int {
		if m.is(kid, api.IntType) {
			return intKind
		}
		return m.shapeNumber(m.shape(kid))
	})}
}

// intKind is the kind of an integer.
const intKind = -1

// kind returns the kind of what a declaration declares.
func (m *module) kind(d int) int {
	t := m.Types[d]
	switch t.Kind {
	case api.TypeInt:
		return intKind
	case api.TypeFrozen:
		return -2 - m.shapeNumber(t.Shape)
	}
	return m.shapeNumber(t.Shape)
}

// params returns the declarations that are the params of the segment of a home.
func (m *module) params(home int) []int {
	if m.is(home, api.TaskItem) {
		return slices.Collect(m.kids(home, api.ParamNode))
	}
	return slices.AppendSeq(m.captures(home), m.kids(home, api.BindNode))
}

// captures returns the declarations outside of an EachStmt that nodes in its block mean, ascending.
func (m *module) captures(each int) []int {
	out, _ := check.Captures(m.Tree, each)
	return out
}
