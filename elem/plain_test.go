package elem_test

import (
	"maps"
	"slices"
	"strconv"

	"dripstone/api"
	"dripstone/order"
)

// spot is a flag, a max, a once or an element of a table, somewhere in an element; a key of a set is a flag that is on.
type spot struct {
	api.Lattice
	path  []int // the keys, and the numbers of kids of pairs, on the way to it
	value api.Elem
}

// plain is an element that is taken for nothing but its spots that are not the bottom, by the texts of their paths.
type plain map[string]spot

// pathText returns a text that no other path has.
func pathText(path []int) string {
	out := ""
	for _, n := range path {
		out += strconv.Itoa(n) + "/"
	}
	return out
}

// add puts a spot in.
func (p plain) add(x spot) {
	p[pathText(x.path)] = x
}

// spread puts all spots of an element in, of which the path is known.
func (p plain) spread(u api.Lattice, e api.Elem, path []int) {
	if e.Kind == api.ElemNone {
		return
	}
	flag := api.Lattice{Shape: api.Shape{Kind: api.ShapeFlag}}
	switch u.Shape.Kind {
	case api.ShapeSet:
		for _, key := range e.Keys {
			p.add(spot{flag, append(slices.Clone(path), key), on()})
		}
	case api.ShapeMap:
		for i, key := range e.Keys {
			p.spread(kidLattice(u, 0), e.Kids[i], append(slices.Clone(path), key))
		}
	case api.ShapePair:
		for i, kid := range e.Kids {
			p.spread(kidLattice(u, i), kid, append(slices.Clone(path), i))
		}
	default:
		p.add(spot{u, path, e})
	}
}

// spotsOf returns the spots of an element.
func spotsOf(u api.Lattice, e api.Elem) plain {
	out := plain{}
	out.spread(u, e, nil)
	return out
}

// under returns the first numbers behind a path of the spots, ascending.
func (p plain) under(path []int) []int {
	var out []int
	for _, x := range p {
		if len(x.path) > len(path) && slices.Equal(x.path[:len(path)], path) {
			out = append(out, x.path[len(path)])
		}
	}
	slices.Sort(out)
	return slices.Compact(out)
}

// elemAt returns the element that the spots behind a path make up.
func (p plain) elemAt(u api.Lattice, path []int) api.Elem {
	keys := p.under(path)
	kid := func(of api.Lattice, n int) api.Elem {
		return p.elemAt(of, append(slices.Clone(path), n))
	}
	switch u.Shape.Kind {
	case api.ShapeSet:
		if len(keys) > 0 {
			return set(keys...)
		}
	case api.ShapeMap:
		if len(keys) > 0 {
			out := mapOf(keys)
			for _, key := range keys {
				out.Kids = append(out.Kids, kid(kidLattice(u, 0), key))
			}
			return out
		}
	case api.ShapePair:
		if len(keys) > 0 {
			return pairOf(kid(kidLattice(u, 0), 0), kid(kidLattice(u, 1), 1))
		}
	default:
		return p[pathText(path)].value
	}
	return none()
}

// joinSpots returns the value of two spots together.
func joinSpots(x, y spot) api.Elem {
	a, b := x.value, y.value
	switch x.Shape.Kind {
	case api.ShapeMax:
		if b.N > a.N {
			return b
		}
		return a
	case api.ShapeOnce:
		if same(a, b) {
			return a
		}
		return clash()
	case api.ShapeNamed:
		n, _ := order.Join(namedTable(x.Lattice), a.N, b.N)
		return name(n)
	}
	return on()
}

// plainJoin returns the join of two elements, spot by spot.
func plainJoin(u api.Lattice, a, b api.Elem) api.Elem {
	out := spotsOf(u, a)
	for at, y := range spotsOf(u, b) {
		if x, ok := out[at]; ok {
			y.value = joinSpots(x, y)
		}
		out[at] = y
	}
	return out.elemAt(u, nil)
}

// plainBelow says whether an element is below another one.
func plainBelow(u api.Lattice, a, b api.Elem) bool {
	return same(plainJoin(u, a, b), b)
}

// plainWrong says whether some spot of an element is wrong.
func plainWrong(u api.Lattice, e api.Elem) bool {
	for _, x := range spotsOf(u, e) {
		if x.value.Kind == api.ElemClash || x.value.Kind == api.ElemName && namedTable(x.Lattice).Wrong[x.value.N] {
			return true
		}
	}
	return false
}

// plainPieces returns the pieces of an element: those of each spot alone, by their paths.
func plainPieces(u api.Lattice, e api.Elem) []api.Elem {
	var out []api.Elem
	byPath := func(x, y spot) int { return slices.Compare(x.path, y.path) }
	for _, x := range slices.SortedFunc(maps.Values(spotsOf(u, e)), byPath) {
		values := []api.Elem{x.value}
		if x.value.Kind == api.ElemName {
			values = nil
			parts, _ := order.Parts(namedTable(x.Lattice), x.value.N)
			for _, n := range parts {
				values = append(values, name(n))
			}
		}
		for _, value := range values {
			one := plain{}
			one.add(spot{x.Lattice, x.path, value})
			out = append(out, one.elemAt(u, nil))
		}
	}
	return out
}

// plainDelta returns what the element b has more than a.
func plainDelta(u api.Lattice, a, b api.Elem) api.Elem {
	out := none()
	for _, p := range plainPieces(u, b) {
		if !plainBelow(u, p, a) {
			out = plainJoin(u, out, p)
		}
	}
	return out
}

// plainKeys says whether a list is one of from 1 to 40 keys.
func plainKeys(l []int) bool {
	last := -1000000001
	for _, key := range l {
		if key <= last || key > 1000000000 {
			return false
		}
		last = key
	}
	return len(l) >= 1 && len(l) <= 40
}

// plainHolds says whether an element is one of a lattice, row by row of the chapter.
func plainHolds(u api.Lattice, e api.Elem) bool {
	bare := len(e.Keys) == 0 && len(e.Kids) == 0
	zero := bare && e.N == 0
	number := bare && e.N >= -1000000000 && e.N <= 1000000000
	if e.Kind == 0 {
		return zero
	}
	switch u.Shape.Kind {
	case api.ShapeFlag:
		return e.Kind == 1 && zero
	case api.ShapeMax:
		return e.Kind == 2 && number
	case api.ShapeOnce:
		return e.Kind == 2 && number || e.Kind == 3 && zero
	case api.ShapeNamed:
		return e.Kind == 4 && bare && e.N > 0 && e.N < len(namedTable(u).Elems)
	case api.ShapeSet:
		return e.Kind == 5 && e.N == 0 && plainKeys(e.Keys) && len(e.Kids) == 0
	case api.ShapeMap:
		if e.Kind != 6 || e.N != 0 || !plainKeys(e.Keys) || len(e.Kids) != len(e.Keys) {
			return false
		}
		for _, kid := range e.Kids {
			if kid.Kind == 0 || !plainHolds(kidLattice(u, 0), kid) {
				return false
			}
		}
		return true
	}
	if e.Kind != 7 || e.N != 0 || len(e.Keys) != 0 || len(e.Kids) != 2 {
		return false
	}
	return plainHolds(kidLattice(u, 0), e.Kids[0]) && plainHolds(kidLattice(u, 1), e.Kids[1]) && (e.Kids[0].Kind != 0 || e.Kids[1].Kind != 0)
}
