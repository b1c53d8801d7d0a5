package elem

import (
	"slices"

	"dripstone/api"
	"dripstone/order"
)

// right is a lattice that is right.
type right struct {
	api.Lattice
}

// prove returns a lattice that is right, and of which all elements are, or the error.
func prove(t api.Lattice, elems ...api.Elem) (right, api.Errno) {
	if err := order.CheckShape(t.Tables, t.Shape); err != api.OK {
		return right{}, err
	}
	r := right{t}
	odd := func(e api.Elem) bool { return !r.holds(e) }
	if slices.ContainsFunc(elems, odd) {
		return right{}, api.ErrArg
	}
	return r, api.OK
}

// kid returns the lattice of the kid of an element with a number: that of a map is the same for all.
func (r right) kid(i int) right {
	kids := r.Shape.Kids
	return right{api.Lattice{Tables: r.Tables, Shape: kids[min(i, len(kids)-1)]}}
}

// table returns the table that the shape names.
func (r right) table() api.Table {
	return r.Tables[slices.IndexFunc(r.Tables, func(t api.Table) bool { return t.Name == r.Shape.Name })]
}

// hasKind says whether some element of the lattice is of a kind.
func (r right) hasKind(kind uint8) bool {
	shape := r.Shape.Kind
	switch kind {
	case api.ElemNone:
		return true
	case api.ElemOn:
		return shape == api.ShapeFlag
	case api.ElemInt:
		return shape == api.ShapeMax || shape == api.ShapeOnce
	case api.ElemClash:
		return shape == api.ShapeOnce
	case api.ElemName:
		return shape == api.ShapeNamed
	case api.ElemSet:
		return shape == api.ShapeSet
	case api.ElemMap:
		return shape == api.ShapeMap
	case api.ElemPair:
		return shape == api.ShapePair
	}
	return false
}

// holds says whether an element is one of the lattice. It goes no deeper than the shape: an element can have itself as a kid, by a list that is in itself.
func (r right) holds(e api.Elem) bool {
	if !r.hasKind(e.Kind) {
		return false
	}
	switch e.Kind {
	case api.ElemInt:
		return isNumber(e.N) && sized(e, 0, 0)
	case api.ElemName:
		return e.N >= 1 && e.N < len(r.table().Elems) && sized(e, 0, 0)
	case api.ElemSet:
		return e.N == 0 && sized(e, len(e.Keys), 0) && areKeys(e.Keys)
	case api.ElemMap:
		return e.N == 0 && sized(e, len(e.Keys), len(e.Keys)) && areKeys(e.Keys) && r.holdsKids(e, 0)
	case api.ElemPair:
		return e.N == 0 && sized(e, 0, 2) && r.holdsKids(e, 1)
	}
	return e.N == 0 && sized(e, 0, 0)
}

// holdsKids says whether the kids of an element are of their lattices, with at most so many that are the bottom.
func (r right) holdsKids(e api.Elem, bottoms int) bool {
	for i, kid := range e.Kids {
		if !r.kid(i).holds(kid) {
			return false
		}
		if kid.Kind == api.ElemNone {
			bottoms--
		}
	}
	return bottoms >= 0
}

// sized says whether an element has so many keys and kids.
func sized(e api.Elem, keys, kids int) bool {
	return len(e.Keys) == keys && len(e.Kids) == kids
}

// isNumber says whether an integer is one that elements can have.
func isNumber(n int) bool {
	return n >= -api.MaxNumber && n <= api.MaxNumber
}

// areKeys says whether a list can be the keys of a set or of a map.
func areKeys(l []int) bool {
	if len(l) < 1 || len(l) > api.MaxKeys {
		return false
	}
	for i, key := range l {
		if !isNumber(key) || i > 0 && key <= l[i-1] {
			return false
		}
	}
	return true
}
