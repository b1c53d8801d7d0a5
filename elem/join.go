package elem

import (
	"slices"

	"dripstone/api"
	"dripstone/order"
)

// join returns the join of two elements, in which there can be more keys than an element may have.
func (r right) join(a, b api.Elem) api.Elem {
	if a.Kind == api.ElemNone {
		return cloned(b)
	}
	if b.Kind == api.ElemNone {
		return cloned(a)
	}
	switch r.Shape.Kind {
	case api.ShapeMax:
		return api.Elem{Kind: api.ElemInt, N: max(a.N, b.N)}
	case api.ShapeOnce:
		return joinOnce(a, b)
	case api.ShapeNamed:
		n, _ := order.Join(r.table(), a.N, b.N)
		return api.Elem{Kind: api.ElemName, N: n}
	case api.ShapeSet:
		return api.Elem{Kind: api.ElemSet, Keys: union(a.Keys, b.Keys)}
	case api.ShapeMap:
		out := api.Elem{Kind: api.ElemMap, Keys: union(a.Keys, b.Keys)}
		for _, key := range out.Keys {
			out.Kids = append(out.Kids, r.kid(0).join(at(a, key), at(b, key)))
		}
		return out
	case api.ShapePair:
		out := api.Elem{Kind: api.ElemPair}
		for i := range 2 {
			out.Kids = append(out.Kids, r.kid(i).join(a.Kids[i], b.Kids[i]))
		}
		return out
	}
	return api.Elem{Kind: api.ElemOn}
}

// joinOnce returns the join of two elements of a once, of which none is the bottom.
func joinOnce(a, b api.Elem) api.Elem {
	if a.Kind == api.ElemInt && b.Kind == api.ElemInt && a.N == b.N {
		return api.Elem{Kind: api.ElemInt, N: a.N}
	}
	return api.Elem{Kind: api.ElemClash}
}

// below says whether an element is below another one.
func (r right) below(a, b api.Elem) bool {
	return compare(r.join(a, b), b) == 0
}

// wrong says whether an element is wrong.
func (r right) wrong(e api.Elem) bool {
	switch e.Kind {
	case api.ElemClash:
		return true
	case api.ElemName:
		return r.table().Wrong[e.N]
	}
	for i, kid := range e.Kids {
		if r.kid(i).wrong(kid) {
			return true
		}
	}
	return false
}

// fits says whether no set and no map in an element has more keys than it may have.
func fits(e api.Elem) bool {
	tooWide := func(kid api.Elem) bool { return !fits(kid) }
	return len(e.Keys) <= api.MaxKeys && !slices.ContainsFunc(e.Kids, tooWide)
}

// at returns what a map, or the bottom, has at a key.
func at(e api.Elem, key int) api.Elem {
	if i, ok := slices.BinarySearch(e.Keys, key); ok {
		return e.Kids[i]
	}
	return api.Elem{}
}

// union returns the keys of two lists, ascending.
func union(a, b []int) []int {
	out := slices.Concat(a, b)
	slices.Sort(out)
	return slices.Compact(out)
}

// cloned returns an element that shares no memory with another one.
func cloned(e api.Elem) api.Elem {
	out := api.Elem{Kind: e.Kind, N: e.N, Keys: append([]int(nil), e.Keys...)}
	for _, kid := range e.Kids {
		out.Kids = append(out.Kids, cloned(kid))
	}
	return out
}
