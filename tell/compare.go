package tell

import (
	"slices"

	"dripstone/api"
	"dripstone/elem"
)

// sameVar says whether two variables are the same.
func sameVar(a, b api.VarState) bool {
	return compareVars(a, b) == 0 && sameShape(a.Shape, b.Shape) && sameElem(a.E, b.E)
}

// sameWait says whether two tasks that wait are the same.
func sameWait(a, b api.Wait) bool {
	return slices.Equal(a.Path, b.Path) && a.Site == b.Site
}

// sameElem says whether two elements are the same.
func sameElem(a, b api.Elem) bool {
	return !elem.Less(a, b) && !elem.Less(b, a)
}

// sameShape says whether two shapes are the same.
func sameShape(a, b api.Shape) bool {
	return sameShapes([]api.Shape{a}, []api.Shape{b}, map[[2]list[api.Shape]]bool{})
}

// sameShapes says whether two lists of shapes are the same. Those that were met count as the same: a shape can have itself as a kid, by a list that is in itself.
func sameShapes(a, b []api.Shape, met map[[2]list[api.Shape]]bool) bool {
	if len(a) != len(b) {
		return false
	}
	at := [2]list[api.Shape]{listOf(a), listOf(b)}
	if met[at] {
		return true
	}
	met[at] = true
	return slices.EqualFunc(a, b, func(a, b api.Shape) bool {
		return a.Kind == b.Kind && a.Name == b.Name && sameShapes(a.Kids, b.Kids, met)
	})
}

// placedVars returns the variables of an outcome by where they were made, and whether they have their forms, and no two of them the same place.
func placedVars(l []api.Table, o api.Outcome) ([]api.VarState, bool) {
	odd := func(v api.VarState) bool {
		return elem.Check(api.Lattice{Tables: l, Shape: v.Shape}, v.E) != api.OK
	}
	if slices.ContainsFunc(o.Vars, odd) {
		return nil, false
	}
	out := slices.Clone(o.Vars)
	slices.SortFunc(out, compareVars)
	for i := range out[min(1, len(out)):] {
		if compareVars(out[i], out[i+1]) == 0 {
			return nil, false
		}
	}
	return out, true
}

// varsBelow says whether each variable of a list is one of another one, with the same shape and a value that is below. Both lists are in the order of places.
func varsBelow(l []api.Table, a, b []api.VarState) bool {
	less := func(v api.VarState) bool {
		i, found := slices.BinarySearchFunc(b, v, compareVars)
		if !found || !sameShape(v.Shape, b[i].Shape) {
			return false
		}
		is, _ := elem.Below(api.Lattice{Tables: l, Shape: v.Shape}, v.E, b[i].E)
		return is
	}
	return !slices.ContainsFunc(a, func(v api.VarState) bool { return !less(v) })
}

// asOften says whether each number of a list is in another one at least as often.
func asOften(a, b []int) bool {
	left := map[int]int{}
	for _, n := range b {
		left[n]++
	}
	for _, n := range a {
		left[n]--
		if left[n] < 0 {
			return false
		}
	}
	return true
}
