package elem

import (
	"iter"
	"slices"

	"dripstone/api"
	"dripstone/order"
)

// pieces yields the pieces of an element, in their order.
func (r right) pieces(e api.Elem) iter.Seq[api.Elem] {
	switch e.Kind {
	case api.ElemName:
		return r.parts(e.N)
	case api.ElemSet:
		return singles(e.Keys)
	case api.ElemMap, api.ElemPair:
		return r.kidPieces(e)
	}
	return func(yield func(api.Elem) bool) {
		if e.Kind != api.ElemNone {
			yield(cloned(e))
		}
	}
}

// parts yields the parts of an element of a table.
func (r right) parts(n int) iter.Seq[api.Elem] {
	return func(yield func(api.Elem) bool) {
		parts, _ := order.Parts(r.table(), n)
		for _, part := range parts {
			if !yield(api.Elem{Kind: api.ElemName, N: part}) {
				return
			}
		}
	}
}

// singles yields the sets of one key.
func singles(keys []int) iter.Seq[api.Elem] {
	return func(yield func(api.Elem) bool) {
		for _, key := range keys {
			if !yield(api.Elem{Kind: api.ElemSet, Keys: []int{key}}) {
				return
			}
		}
	}
}

// kidPieces yields the pieces of the kids of a map or a pair, each in its place.
func (r right) kidPieces(e api.Elem) iter.Seq[api.Elem] {
	return func(yield func(api.Elem) bool) {
		for i, kid := range e.Kids {
			for p := range r.kid(i).pieces(kid) {
				if !yield(placed(e, i, p)) {
					return
				}
			}
		}
	}
}

// placed returns the map or the pair that has nothing but one kid, which stands where a kid of another one does.
func placed(e api.Elem, i int, kid api.Elem) api.Elem {
	if e.Kind == api.ElemMap {
		return api.Elem{Kind: api.ElemMap, Keys: []int{e.Keys[i]}, Kids: []api.Elem{kid}}
	}
	out := api.Elem{Kind: api.ElemPair, Kids: make([]api.Elem, 2)}
	out.Kids[i] = kid
	return out
}

// delta returns what the element b has more than a. Of sets, maps and pairs it is that of their keys and kids, since each piece lies in one of these alone.
func (r right) delta(a, b api.Elem) api.Elem {
	switch b.Kind {
	case api.ElemSet:
		return setDelta(a, b)
	case api.ElemMap:
		return r.mapDelta(a, b)
	case api.ElemPair:
		return r.pairDelta(a, b)
	}
	var out api.Elem
	for p := range r.pieces(b) {
		if !r.below(p, a) {
			out = r.join(out, p)
		}
	}
	return out
}

// setDelta returns what a set has more than another one, or than the bottom.
func setDelta(a, b api.Elem) api.Elem {
	out := api.Elem{Kind: api.ElemSet}
	for _, key := range b.Keys {
		if !slices.Contains(a.Keys, key) {
			out.Keys = append(out.Keys, key)
		}
	}
	return orBottom(out)
}

// mapDelta returns what a map has more than another one, or than the bottom.
func (r right) mapDelta(a, b api.Elem) api.Elem {
	out := api.Elem{Kind: api.ElemMap}
	for i, key := range b.Keys {
		kid := r.kid(0).delta(at(a, key), b.Kids[i])
		if kid.Kind != api.ElemNone {
			out.Keys = append(out.Keys, key)
			out.Kids = append(out.Kids, kid)
		}
	}
	return orBottom(out)
}

// pairDelta returns what a pair has more than another one, or than the bottom.
func (r right) pairDelta(a, b api.Elem) api.Elem {
	if a.Kind == api.ElemNone {
		return cloned(b)
	}
	first := r.kid(0).delta(a.Kids[0], b.Kids[0])
	second := r.kid(1).delta(a.Kids[1], b.Kids[1])
	return orBottom(api.Elem{Kind: api.ElemPair, Kids: []api.Elem{first, second}})
}

// orBottom returns a set, a map or a pair, or the bottom, if there is nothing in it.
func orBottom(e api.Elem) api.Elem {
	filled := func(kid api.Elem) bool { return kid.Kind != api.ElemNone }
	if len(e.Keys) == 0 && !slices.ContainsFunc(e.Kids, filled) {
		return api.Elem{}
	}
	return e
}
