package elem_test

import (
	"math/rand"
	"slices"
	"testing"

	"dripstone/api"
	"dripstone/elem"
	"dripstone/order"
)

// tableTexts are the tables that shapes of the tests can name.
func tableTexts() []string {
	return []string{
		"lattice l { a: b, c; b: d; c: d; d! }",
		"lattice c { none: low; low: mid2; mid2: high; high }",
		"lattice cube { o: a, b, c; a: ab, ac; b: ab, bc; c: ac, bc; ab: abc; ac: abc; bc!: abc; abc! }",
		"lattice m { o: a, b, c; a: t; b: t; c: t; t }",
		"lattice one { a }",
	}
}

// latticeOf returns the lattice with the text of a shape.
func latticeOf(t *testing.T, shape string) api.Lattice {
	t.Helper()
	var out api.Lattice
	for _, s := range tableTexts() {
		x, e := order.Parse(s)
		if e != api.OK {
			t.Fatalf("order.Parse of %q: %v", s, e)
		}
		out.Tables = append(out.Tables, x)
	}
	s, e := order.ParseShape(shape)
	if e != api.OK {
		t.Fatalf("order.ParseShape of %q: %v", shape, e)
	}
	out.Shape = s
	return out
}

// kidLattice returns the lattice of a kid of the shape.
func kidLattice(u api.Lattice, i int) api.Lattice {
	return api.Lattice{Tables: u.Tables, Shape: u.Shape.Kids[i]}
}

// namedTable returns the table that the shape of a lattice names.
func namedTable(u api.Lattice) api.Table {
	for _, x := range u.Tables {
		if x.Name == u.Shape.Name {
			return x
		}
	}
	return api.Table{}
}

// none returns the bottom, and on, whole, clash, name, set, mapOf and pairOf other elements.
func none() api.Elem {
	return api.Elem{}
}

func on() api.Elem {
	return api.Elem{Kind: api.ElemOn}
}

func whole(n int) api.Elem {
	return api.Elem{Kind: api.ElemInt, N: n}
}

func clash() api.Elem {
	return api.Elem{Kind: api.ElemClash}
}

func name(n int) api.Elem {
	return api.Elem{Kind: api.ElemName, N: n}
}

func set(keys ...int) api.Elem {
	return api.Elem{Kind: api.ElemSet, Keys: keys}
}

func mapOf(keys []int, kids ...api.Elem) api.Elem {
	return api.Elem{Kind: api.ElemMap, Keys: keys, Kids: kids}
}

func pairOf(kids ...api.Elem) api.Elem {
	return api.Elem{Kind: api.ElemPair, Kids: kids}
}

// upTo returns the numbers from 0 on, below n.
func upTo(n int) []int {
	var out []int
	for i := range n {
		out = append(out, i)
	}
	return out
}

// same says whether two elements are the same (nil lists are empty ones).
func same(a, b api.Elem) bool {
	return a.Kind == b.Kind && a.N == b.N && slices.Equal(a.Keys, b.Keys) && slices.EqualFunc(a.Kids, b.Kids, same)
}

// copyElem returns an element that shares no memory with another one.
func copyElem(e api.Elem) api.Elem {
	out := api.Elem{Kind: e.Kind, N: e.N, Keys: slices.Clone(e.Keys)}
	for _, kid := range e.Kids {
		out.Kids = append(out.Kids, copyElem(kid))
	}
	return out
}

// small lists shapes of which all elements with few numbers and keys are taken in pairs.
func small() []string {
	return []string{
		"flag", "max", "once", "set", "l", "c", "cube", "m", "one",
		"map(flag)", "map(max)", "map(once)", "map(l)", "map(set)", "map(one)", "pair(flag, max)", "pair(l, once)", "pair(set, m)", "pair(one, flag)",
		"map(pair(flag, l))", "pair(map(flag), pair(l, flag))", "pair(once, map(map(flag)))", "pair(pair(pair(flag, once), flag), l)",
	}
}

// great lists shapes of which elements are taken by chance.
func great() []string {
	return append(small(), "map(map(set))", "map(map(map(flag)))", "map(map(map(set)))", "pair(map(set), map(once))", "map(pair(map(cube), set))", "pair(map(map(m)), pair(set, max))", "map(pair(pair(l, cube), pair(max, set)))")
}

// allElems returns all elements of a lattice with few numbers and keys.
func allElems(u api.Lattice) []api.Elem {
	out := []api.Elem{none()}
	switch u.Shape.Kind {
	case api.ShapeFlag:
		out = append(out, on())
	case api.ShapeMax:
		out = append(out, whole(-api.MaxNumber), whole(0), whole(3))
	case api.ShapeOnce:
		out = append(out, whole(-1), whole(2), clash())
	case api.ShapeNamed:
		for n := 1; n < len(namedTable(u).Elems); n++ {
			out = append(out, name(n))
		}
	case api.ShapeSet:
		out = append(out, set(-1), set(2), set(7), set(-1, 2), set(-1, 7), set(2, 7), set(-1, 2, 7))
	case api.ShapeMap:
		kids := allElems(kidLattice(u, 0))[1:]
		for _, kid := range kids {
			out = append(out, mapOf([]int{-4}, kid), mapOf([]int{65}, kid))
			for _, other := range kids {
				out = append(out, mapOf([]int{-4, 65}, kid, other))
			}
		}
	case api.ShapePair:
		for _, kid := range allElems(kidLattice(u, 0)) {
			for _, other := range allElems(kidLattice(u, 1)) {
				if !same(kid, none()) || !same(other, none()) {
					out = append(out, pairOf(kid, other))
				}
			}
		}
	}
	return out
}

// someKeys returns from 1 to 4 keys; most of them come often.
func someKeys(r *rand.Rand) []int {
	var out []int
	for range 1 + r.Intn(4) {
		key := r.Intn(7) - 3
		if r.Intn(6) == 0 {
			key = r.Intn(2*api.MaxNumber+1) - api.MaxNumber
		}
		out = append(out, key)
	}
	slices.Sort(out)
	return slices.Compact(out)
}

// someElem returns an element of a lattice.
func someElem(r *rand.Rand, u api.Lattice) api.Elem {
	if r.Intn(8) == 0 {
		return none()
	}
	switch u.Shape.Kind {
	case api.ShapeFlag:
		return on()
	case api.ShapeMax:
		return whole(r.Intn(200) - 100)
	case api.ShapeOnce:
		if r.Intn(8) == 0 {
			return clash()
		}
		return whole(r.Intn(3))
	case api.ShapeNamed:
		if n := r.Intn(len(namedTable(u).Elems)); n > 0 {
			return name(n)
		}
		return none()
	case api.ShapeSet:
		return set(someKeys(r)...)
	}
	return someBranch(r, u)
}

// someBranch returns a map, a pair, or the bottom.
func someBranch(r *rand.Rand, u api.Lattice) api.Elem {
	out := mapOf(nil)
	if u.Shape.Kind == api.ShapePair {
		out = pairOf(someElem(r, kidLattice(u, 0)), someElem(r, kidLattice(u, 1)))
		if same(out, pairOf(none(), none())) {
			return none()
		}
		return out
	}
	for _, key := range someKeys(r) {
		if kid := someElem(r, kidLattice(u, 0)); !same(kid, none()) {
			out.Keys, out.Kids = append(out.Keys, key), append(out.Kids, kid)
		}
	}
	if len(out.Keys) == 0 {
		return none()
	}
	return out
}

// pairsOf calls a function with pairs of elements of all great shapes: all of the small ones, and some of each.
func pairsOf(t *testing.T, seed int64, call func(u api.Lattice, a, b api.Elem)) {
	t.Helper()
	for _, shape := range small() {
		u := latticeOf(t, shape)
		all := allElems(u)
		for _, a := range all {
			for _, b := range all {
				call(u, a, b)
			}
		}
	}
	r := rand.New(rand.NewSource(seed))
	for _, shape := range great() {
		u := latticeOf(t, shape)
		for range 150 {
			a, b := someElem(r, u), someElem(r, u)
			call(u, a, b)
			if j, e := elem.Join(u, a, b); e == api.OK {
				call(u, a, j)
				call(u, j, b)
			}
		}
	}
}

// elemsOf calls a function with elements of all great shapes.
func elemsOf(t *testing.T, seed int64, call func(u api.Lattice, x api.Elem)) {
	t.Helper()
	for _, shape := range small() {
		u := latticeOf(t, shape)
		for _, x := range allElems(u) {
			call(u, x)
		}
	}
	r := rand.New(rand.NewSource(seed))
	for _, shape := range great() {
		u := latticeOf(t, shape)
		for range 150 {
			call(u, someElem(r, u))
		}
	}
}

// mustJoin returns the join of elements that fits.
func mustJoin(t *testing.T, u api.Lattice, l ...api.Elem) api.Elem {
	t.Helper()
	j, e := elem.JoinAll(u, l)
	if e != api.OK {
		t.Fatalf("JoinAll of %v: %v", l, e)
	}
	return j
}

// mustBelow says whether an element is below another one.
func mustBelow(t *testing.T, u api.Lattice, a, b api.Elem) bool {
	t.Helper()
	is, e := elem.Below(u, a, b)
	if e != api.OK {
		t.Fatalf("Below of %v, %v: %v", a, b, e)
	}
	return is
}

// mustExclude says whether two elements exclude each other.
func mustExclude(t *testing.T, u api.Lattice, a, b api.Elem) bool {
	t.Helper()
	is, e := elem.Excludes(u, a, b)
	if e != api.OK {
		t.Fatalf("Excludes of %v, %v: %v", a, b, e)
	}
	return is
}

// mustPieces returns the pieces of an element.
func mustPieces(t *testing.T, u api.Lattice, x api.Elem) []api.Elem {
	t.Helper()
	l, e := elem.Pieces(u, x)
	if e != api.OK {
		t.Fatalf("Pieces of %v: %v", x, e)
	}
	return l
}

// mustHold checks that an element is one of a lattice, as the chapter says it.
func mustHold(t *testing.T, u api.Lattice, what string, x api.Elem) {
	t.Helper()
	if e := elem.Check(u, x); e != api.OK || !plainHolds(u, x) {
		t.Fatalf("%s returned %v, which is none of the lattice: %v", what, x, e)
	}
}
