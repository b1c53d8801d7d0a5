package check

import (
	"slices"

	"dripstone/api"
)

// shapeAt returns the shape of the variable, or of the part of it, that a point is for, and whether there is one.
func (v *view) shapeAt(point int) (api.Shape, bool) {
	up := v.ups[point]
	switch {
	case v.is(up, api.KeyPoint):
		return v.part(up, api.ShapeMap, 0)
	case v.is(up, api.PairPoint):
		return v.part(up, api.ShapePair, v.side(point))
	case v.is(up, api.CaseNode):
		up = v.ups[up]
	}
	d, ok := v.variable(up)
	if !ok {
		return api.Shape{}, false
	}
	return v.Types[d].Shape, true
}

// part returns a kid of the shape that a point is for, if this is of a kind that has kids.
func (v *view) part(point int, kind uint8, kid int) (api.Shape, bool) {
	shape, ok := v.shapeAt(point)
	if !ok || shape.Kind != kind {
		return api.Shape{}, false
	}
	return shape.Kids[kid], true
}

// side returns which one of a pair's kids a point in a PairPoint is for.
func (v *view) side(point int) int {
	pair := v.ups[point]
	if point != pair+1 || v.Nodes[pair].N == 2 {
		return 1
	}
	return 0
}

// pointError returns the error of a point.
func (v *view) pointError(point int) api.Errno {
	shape, ok := v.shapeAt(point)
	if !ok {
		// What it is in has an error, which comes first.
		return api.OK
	}
	if v.is(point, api.NamePoint) && v.Means[point] < 0 {
		return api.ErrType
	}
	return unless(fits(v.Nodes[point].Kind, shape.Kind))
}

// fits says whether points of a kind are for shapes of a kind.
func fits(point, shape uint8) bool {
	switch point {
	case api.OnPoint:
		return shape == api.ShapeFlag
	case api.IntPoint:
		return shape == api.ShapeMax || shape == api.ShapeOnce
	case api.SetPoint:
		return shape == api.ShapeSet
	case api.NamePoint:
		return shape == api.ShapeNamed
	case api.KeyPoint:
		return shape == api.ShapeMap
	}
	return shape == api.ShapePair
}

// elem returns the element of a point that fits, in which an expr that is not constant counts as 0, and whether the point is constant.
func (v *view) elem(point int) (api.Elem, bool) {
	n := v.Nodes[point]
	switch n.Kind {
	case api.IntPoint:
		number, constant := v.number(point + 1)
		return api.Elem{Kind: api.ElemInt, N: number}, constant
	case api.SetPoint:
		return v.set(point)
	case api.NamePoint:
		e := v.Means[point]
		return api.Elem{Kind: api.ElemName, N: slices.Index(slices.Collect(v.kids(v.ups[e])), e)}, true
	case api.KeyPoint:
		key, constant := v.number(point + 1)
		kid, kidConstant := v.elem(v.end(point + 1))
		return api.Elem{Kind: api.ElemMap, Keys: []int{key}, Kids: []api.Elem{kid}}, constant && kidConstant
	case api.PairPoint:
		return v.pair(point)
	}
	return api.Elem{Kind: api.ElemOn}, true
}

// set returns the element of a SetPoint, and whether it is constant.
func (v *view) set(point int) (api.Elem, bool) {
	out, constant := api.Elem{Kind: api.ElemSet}, true
	for kid := range v.kids(point) {
		key, ok := v.number(kid)
		out.Keys = append(out.Keys, key)
		constant = constant && ok
	}
	slices.Sort(out.Keys)
	out.Keys = slices.Compact(out.Keys)
	return out, constant
}

// pair returns the element of a PairPoint, and whether it is constant.
func (v *view) pair(point int) (api.Elem, bool) {
	out, constant := api.Elem{Kind: api.ElemPair, Kids: make([]api.Elem, 2)}, true
	for kid := range v.kids(point) {
		x, ok := v.elem(kid)
		out.Kids[v.side(kid)] = x
		constant = constant && ok
	}
	return out, constant
}

// number returns the integer of an expr, and whether it is constant; if not, the integer is 0.
func (v *view) number(expr int) (int, bool) {
	sign := 1
	if v.is(expr, api.NegNode) {
		expr++
		sign = -1
	}
	if !v.is(expr, api.NumNode) {
		return 0, false
	}
	return sign * v.Nodes[expr].N, true
}

// table returns the table that a LatticeItem declares.
func (v *view) table(item int) api.Table {
	elems := slices.Collect(v.kids(item))
	out := api.Table{Name: v.Nodes[item].Text}
	for _, e := range elems {
		out.Elems = append(out.Elems, v.Nodes[e].Text)
		out.Wrong = append(out.Wrong, v.Nodes[e].N == 1)
		var above []int
		for other := range v.kids(e) {
			above = append(above, slices.Index(elems, v.Means[other]))
		}
		slices.Sort(above)
		out.Above = append(out.Above, slices.Compact(above))
	}
	return out
}
