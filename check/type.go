package check

import (
	"slices"

	"dripstone/api"
	"dripstone/order"
)

// shapeKinds are the kinds of shapes, by those of their nodes.
var shapeKinds = [...]uint8{
	api.FlagType:  api.ShapeFlag,
	api.MaxType:   api.ShapeMax,
	api.SetType:   api.ShapeSet,
	api.OnceType:  api.ShapeOnce,
	api.NamedType: api.ShapeNamed,
	api.MapType:   api.ShapeMap,
	api.PairType:  api.ShapePair,
}

// shape returns the shape that a node is.
func (v *view) shape(node int) api.Shape {
	n := v.Nodes[node]
	out := api.Shape{Kind: shapeKinds[n.Kind], Name: n.Text}
	for kid := range v.kids(node) {
		out.Kids = append(out.Kids, v.shape(kid))
	}
	return out
}

// same says whether two shapes are the same.
func same(a, b api.Shape) bool {
	return a.Kind == b.Kind && a.Name == b.Name && slices.EqualFunc(a.Kids, b.Kids, same)
}

// declared returns the type that a node declares.
func (v *view) declared(node int) api.Type {
	up := v.ups[node]
	switch {
	case v.is(node, api.LetStmt), v.is(node, api.BindNode) && v.is(up, api.EachStmt):
		return api.Type{Kind: api.TypeInt}
	case v.is(node, api.BindNode):
		return api.Type{Kind: api.TypeFrozen, Shape: v.frozen(up)}
	case v.is(node, api.NewStmt):
		return api.Type{Kind: api.TypeOwn, Shape: v.shape(node + 1)}
	case v.is(node, api.ShareStmt), v.is(node, api.ParamNode) && v.isShape(node+1):
		return api.Type{Kind: api.TypeShared, Shape: v.shape(node + 1)}
	case v.is(node, api.ParamNode):
		return api.Type{Kind: api.TypeInt}
	}
	return api.Type{}
}

// frozen returns the shape of the variable that a FreezeStmt means, in new memory, or the zero shape.
func (v *view) frozen(stmt int) api.Shape {
	d, ok := v.variable(stmt)
	if !ok {
		return api.Shape{}
	}
	return v.shape(d + 1)
}

// variable returns the declaration of the variable that a node means, and whether it means one.
func (v *view) variable(node int) (int, bool) {
	d := v.Means[node]
	if d < 0 {
		return 0, false
	}
	kind := v.Types[d].Kind
	return d, kind == api.TypeOwn || kind == api.TypeShared
}

// rules returns how the nodes of each kind are looked at to find out whether types fit.
func rules() map[uint8]func(*view, int) api.Errno {
	return map[uint8]func(*view, int) api.Errno{
		api.LatticeItem: (*view).latticeError,
		api.MapType:     (*view).shapeError,
		api.PairType:    (*view).shapeError,
		api.PutStmt:     (*view).variableError,
		api.WhenStmt:    (*view).variableError,
		api.FreezeStmt:  (*view).variableError,
		api.EachStmt:    (*view).eachError,
		api.OnPoint:     (*view).pointError,
		api.IntPoint:    (*view).pointError,
		api.SetPoint:    (*view).pointError,
		api.NamePoint:   (*view).pointError,
		api.KeyPoint:    (*view).pointError,
		api.PairPoint:   (*view).pointError,
		api.SpawnStmt:   (*view).spawnError,
		api.NameNode:    (*view).integerError,
		api.SizeNode:    (*view).keysError,
		api.HasNode:     (*view).keysError,
		api.ValueNode:   (*view).valueError,
	}
}

// typeError returns the error of the types of a node.
func (v *view) typeError(node int) api.Errno {
	if param, ok := v.param(node); ok && v.isShape(param) {
		return v.argumentError(node, v.shape(param))
	}
	if rule, ok := v.rules[v.Nodes[node].Kind]; ok {
		return rule(v, node)
	}
	return api.OK
}

// unless returns ErrType if something does not hold.
func unless(holds bool) api.Errno {
	if !holds {
		return api.ErrType
	}
	return api.OK
}

// latticeError returns the error of a LatticeItem.
func (v *view) latticeError(node int) api.Errno {
	number := slices.Index(slices.Collect(v.kids(0, api.LatticeItem)), node)
	if number >= api.MaxTables {
		return api.ErrLimit
	}
	if _, e := order.Prove(v.tables[number]); e != api.OK {
		return api.ErrFalse
	}
	return api.OK
}

// shapeError returns the error of a shape that has kids: others have not too many levels. One that is in another one has no error of its own.
func (v *view) shapeError(node int) api.Errno {
	if v.isShape(v.ups[node]) {
		return api.OK
	}
	if _, e := order.ShapeText(v.shape(node)); e == api.ErrLimit {
		return api.ErrLimit
	}
	return api.OK
}

// variableError returns the error of a statement that must mean a variable.
func (v *view) variableError(node int) api.Errno {
	_, ok := v.variable(node)
	return unless(ok)
}

// eachError returns the error of an EachStmt.
func (v *view) eachError(node int) api.Errno {
	d, ok := v.variable(node)
	return unless(ok && v.declares(d, api.ShapeSet, api.ShapeMap))
}

// integerError returns the error of a NameNode that stands for an integer.
func (v *view) integerError(node int) api.Errno {
	return unless(v.Types[v.Means[node]].Kind == api.TypeInt)
}

// keysError returns the error of a SizeNode or HasNode.
func (v *view) keysError(node int) api.Errno {
	d := v.Means[node]
	return unless(v.Types[d].Kind == api.TypeFrozen && v.declares(d, api.ShapeSet, api.ShapeMap))
}

// valueError returns the error of a ValueNode.
func (v *view) valueError(node int) api.Errno {
	d := v.Means[node]
	return unless(v.Types[d].Kind == api.TypeFrozen && v.declares(d, api.ShapeMax, api.ShapeOnce))
}

// declares says whether what a declaration declares has a shape of one of some kinds.
func (v *view) declares(d int, kinds ...uint8) bool {
	return slices.Contains(kinds, v.Types[d].Shape.Kind)
}

// spawnError returns the error of a SpawnStmt, but for its kids.
func (v *view) spawnError(node int) api.Errno {
	arguments := slices.Collect(v.kids(node))
	params := slices.Collect(v.params(v.Means[node]))
	return unless(len(arguments) == len(params))
}

// param returns the type of the parameter for which a node is handed over by a SpawnStmt, and whether there is one.
func (v *view) param(node int) (int, bool) {
	up := v.ups[node]
	if !v.is(up, api.SpawnStmt) {
		return 0, false
	}
	number := slices.Index(slices.Collect(v.kids(up)), node)
	params := slices.Collect(v.params(v.Means[up]))
	if number >= len(params) {
		return 0, false
	}
	return params[number], true
}

// argumentError returns the error of what is handed over for a variable of a shape.
func (v *view) argumentError(node int, shape api.Shape) api.Errno {
	d, ok := v.variable(node)
	return unless(ok && v.is(node, api.NameNode) && same(v.Types[d].Shape, shape))
}
