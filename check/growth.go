package check

import (
	"iter"
	"slices"

	"dripstone/api"
	"dripstone/elem"
)

// growthError returns the error of the growth of variables at a node.
func (v *view) growthError(node int) api.Errno {
	if v.loose(node) || v.handedOut(node) || v.tooEarly(node) || v.tooLate(node) {
		return api.ErrState
	}
	if v.is(node, api.CaseNode) && v.unclear(node) {
		return api.ErrFalse
	}
	return api.OK
}

// own says whether a declaration is that of a variable that is own at a node.
func (v *view) own(d, node int) bool {
	return d >= 0 && v.Types[d].Kind == api.TypeOwn && v.levels[d] == v.levels[node]
}

// loose says whether a node is an EachStmt or FreezeStmt whose variable is not own there, or an EachStmt without pools.
func (v *view) loose(node int) bool {
	if !v.is(node, api.EachStmt, api.FreezeStmt) {
		return false
	}
	return !v.own(v.Means[node], node) || v.is(node, api.EachStmt) && v.Pools[node] == 0
}

// handedOut says whether a node hands an own variable over to a task that is in no pool.
func (v *view) handedOut(node int) bool {
	return v.is(node, api.NameNode) && v.is(v.ups[node], api.SpawnStmt) && v.own(v.Means[node], node) && v.Pools[node] == 0
}

// tooEarly says whether a node is an EachStmt or FreezeStmt whose variable was passed on in a pool that is still open there, but, of an EachStmt, for its innermost one.
func (v *view) tooEarly(node int) bool {
	if !v.is(node, api.EachStmt, api.FreezeStmt) {
		return false
	}
	open := slices.Collect(v.pools(node))
	if v.is(node, api.EachStmt) && len(open) > 0 {
		open = open[1:]
	}
	return first(v.passes(node), func(stmt int) bool { return slices.Contains(open, v.inner[stmt]) }) >= 0
}

// tooLate says whether a node means a variable that was frozen before it.
func (v *view) tooLate(node int) bool {
	d, ok := v.variable(node)
	if !ok {
		return false
	}
	frozen := func(stmt int) bool { return stmt < node && v.Means[stmt] == d }
	return first(v.below(v.tops[node], api.FreezeStmt), frozen) >= 0
}

// passes yields the statements that pass on the variable of an EachStmt or FreezeStmt, with smaller numbers, of the same level, ascending.
func (v *view) passes(node int) iter.Seq[int] {
	return func(yield func(int) bool) {
		for stmt := range v.below(v.tops[node], api.SpawnStmt, api.EachStmt) {
			before := stmt < node && v.levels[stmt] == v.levels[node]
			if before && v.passesOn(stmt, v.Means[node]) && !yield(stmt) {
				return
			}
		}
	}
}

// passesOn says whether a SpawnStmt or an EachStmt passes on a variable.
func (v *view) passesOn(stmt, d int) bool {
	if !v.own(d, stmt) {
		return false
	}
	among := v.kids(stmt, api.NameNode)
	if v.is(stmt, api.EachStmt) {
		if v.Means[stmt] == d {
			return true
		}
		among = v.below(v.block(stmt))
	}
	return first(among, func(node int) bool { return v.Means[node] == d }) >= 0
}

// captures returns the declarations outside of an EachStmt that nodes in its block mean, ascending.
func (v *view) captures(each int) []int {
	var out []int
	for node := range v.below(v.block(each)) {
		if d := v.Means[node]; d < each && v.isDeclaration(d) {
			out = append(out, d)
		}
	}
	slices.Sort(out)
	return slices.Compact(out)
}

// unclear says whether a CaseNode is one of several, and not constant, or does not exclude one before it; or can be reached only by an element that is wrong.
func (v *view) unclear(node int) bool {
	cases := slices.Collect(v.kids(v.ups[node]))
	point, constant := v.elem(node + 1)
	if len(cases) > 1 && !constant {
		return true
	}
	shape, _ := v.shapeAt(node + 1)
	lattice := api.Lattice{Tables: v.tables, Shape: shape}
	if wrong, _ := elem.IsWrong(lattice, point); wrong {
		return true
	}
	for _, other := range cases[:slices.Index(cases, node)] {
		before, _ := v.elem(other + 1)
		if excludes, _ := elem.Excludes(lattice, before, point); !excludes {
			return true
		}
	}
	return false
}
