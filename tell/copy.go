package tell

import (
	"slices"

	"dripstone/api"
)

// list tells lists that are not empty from all others, by where they lie in memory.
type list[T any] struct {
	first  *T
	length int
}

// listOf returns where a list lies.
func listOf[T any](l []T) list[T] {
	if len(l) == 0 {
		return list[T]{}
	}
	return list[T]{&l[0], len(l)}
}

// copied returns a copy of a list whose elements have such lists themselves, as kids tells of a copy of each. Where a list is in itself, the copy is in itself: open has those that are being copied.
func copied[T any](l []T, kids func(*T) *[]T, open map[list[T]][]T) []T {
	if len(l) == 0 {
		return nil
	}
	at := listOf(l)
	if out, ok := open[at]; ok {
		return out
	}
	out := slices.Clone(l)
	open[at] = out
	for i := range out {
		below := kids(&out[i])
		*below = copied(*below, kids, open)
	}
	delete(open, at)
	return out
}

// copiedElem returns a copy of an element.
func copiedElem(e api.Elem) api.Elem {
	kids := func(e *api.Elem) *[]api.Elem {
		e.Keys = slices.Clone(e.Keys)
		return &e.Kids
	}
	return copied([]api.Elem{e}, kids, map[list[api.Elem]][]api.Elem{})[0]
}

// copiedShape returns a copy of a shape.
func copiedShape(s api.Shape) api.Shape {
	kids := func(s *api.Shape) *[]api.Shape { return &s.Kids }
	return copied([]api.Shape{s}, kids, map[list[api.Shape]][]api.Shape{})[0]
}

// copiedVar returns a copy of a variable.
func copiedVar(v api.VarState) api.VarState {
	return api.VarState{Path: slices.Clone(v.Path), Site: v.Site, Shape: copiedShape(v.Shape), E: copiedElem(v.E)}
}
