package tell

import (
	"slices"

	"dripstone/api"
)

// elem returns the element of a point.
func (r *reckoner) elem(point int) api.Elem {
	switch r.Nodes[point].Kind {
	case api.IntPoint:
		return api.Elem{Kind: api.ElemInt, N: r.integer(point + 1)}
	case api.SetPoint:
		keys := r.integers(point)
		slices.Sort(keys)
		return api.Elem{Kind: api.ElemSet, Keys: slices.Compact(keys)}
	case api.NamePoint:
		return api.Elem{Kind: api.ElemName, N: r.elementNumber(r.Means[point])}
	case api.KeyPoint:
		key := r.integer(point + 1)
		kid := r.elem(r.end(point + 1))
		return api.Elem{Kind: api.ElemMap, Keys: []int{key}, Kids: []api.Elem{kid}}
	case api.PairPoint:
		return r.pair(point)
	}
	return api.Elem{Kind: api.ElemOn}
}

// elementNumber returns which one of its table's elements an ElemNode is.
func (r *reckoner) elementNumber(node int) int {
	for item := range r.kids(0, api.LatticeItem) {
		if node < r.end(item) {
			return slices.Index(slices.Collect(r.kids(item)), node)
		}
	}
	return 0
}

// pair returns the element of a PairPoint.
func (r *reckoner) pair(point int) api.Elem {
	out := api.Elem{Kind: api.ElemPair, Kids: make([]api.Elem, 2)}
	side := 0
	// The second point stands alone.
	if r.Nodes[point].N == 2 {
		side = 1
	}
	for kid := range r.kids(point) {
		out.Kids[side] = r.elem(kid)
		side++
	}
	return out
}
