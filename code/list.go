package code

import (
	"iter"
	"slices"

	"dripstone/api"
)

// every says whether something holds of all elements of a list.
func every[T any](l []T, holds func(T) bool) bool {
	return !slices.ContainsFunc(l, func(x T) bool { return !holds(x) })
}

// different says whether no value comes twice.
func different[T comparable](l iter.Seq[T]) bool {
	met := map[T]bool{}
	for x := range l {
		if met[x] {
			return false
		}
		met[x] = true
	}
	return true
}

// copied returns a list of copies of the elements of another one.
func copied[T any](l []T, copy func(T) T) []T {
	var out []T
	for _, x := range l {
		out = append(out, copy(x))
	}
	return out
}

// copiedTable returns a table that shares no memory with another one.
func copiedTable(t api.Table) api.Table {
	return api.Table{Name: t.Name, Elems: slices.Clone(t.Elems), Above: copied(t.Above, slices.Clone), Wrong: slices.Clone(t.Wrong)}
}

// copiedShape returns a shape that shares no memory with another one.
func copiedShape(s api.Shape) api.Shape {
	return api.Shape{Kind: s.Kind, Name: s.Name, Kids: copied(s.Kids, copiedShape)}
}

// copiedElem returns an element that shares no memory with another one.
func copiedElem(e api.Elem) api.Elem {
	return api.Elem{Kind: e.Kind, N: e.N, Keys: slices.Clone(e.Keys), Kids: copied(e.Kids, copiedElem)}
}

// sameShape says whether two shapes are the same.
func sameShape(a, b api.Shape) bool {
	return a.Kind == b.Kind && a.Name == b.Name && slices.EqualFunc(a.Kids, b.Kids, sameShape)
}

// sameElem says whether two elements are the same.
func sameElem(a, b api.Elem) bool {
	return a.Kind == b.Kind && a.N == b.N && slices.Equal(a.Keys, b.Keys) && slices.EqualFunc(a.Kids, b.Kids, sameElem)
}
