package elem_test

import (
	"math/rand"
	"slices"
	"testing"

	"dripstone/api"
	"dripstone/elem"
)

// someElems returns some elements of a lattice, whose joins never have too many keys.
func someElems(r *rand.Rand, u api.Lattice, n int) []api.Elem {
	var out []api.Elem
	for range n {
		out = append(out, someElem(r, u))
	}
	return out
}

// triples calls a function with elements of all great shapes.
func triples(t *testing.T, seed int64, n int, call func(u api.Lattice, a, b, c api.Elem)) {
	t.Helper()
	r := rand.New(rand.NewSource(seed))
	for _, shape := range great() {
		u := latticeOf(t, shape)
		for range n {
			l := someElems(r, u, 3)
			call(u, l[0], l[1], l[2])
		}
	}
}

// P4.9: joins in any order, and as often as one likes.
func TestAnyOrder(t *testing.T) {
	r := rand.New(rand.NewSource(11))
	for _, shape := range great() {
		u := latticeOf(t, shape)
		for range 100 {
			l := someElems(r, u, r.Intn(6))
			want := mustJoin(t, u, l...)
			mustHold(t, u, "JoinAll", want)
			again := slices.Clone(l)
			for range r.Intn(6) {
				if len(l) > 0 {
					again = append(again, l[r.Intn(len(l))], none())
				}
			}
			r.Shuffle(len(again), func(i, j int) { again[i], again[j] = again[j], again[i] })
			if j := mustJoin(t, u, again...); !same(j, want) {
				t.Fatalf("JoinAll, %s, of %v and of %v: %v, %v", shape, l, again, want, j)
			}
			// In two parts, each by itself.
			at := r.Intn(len(again) + 1)
			if j := mustJoin(t, u, mustJoin(t, u, again[at:]...), mustJoin(t, u, again[:at]...)); !same(j, want) {
				t.Fatalf("JoinAll, %s, of %v in two parts: %v, %v", shape, again, want, j)
			}
		}
	}
}

// P4.9: a join is above both, and below whatever is above both.
func TestLeastAbove(t *testing.T) {
	met := 0
	triples(t, 12, 300, func(u api.Lattice, a, b, c api.Elem) {
		j := mustJoin(t, u, a, b)
		if !mustBelow(t, u, a, j) || !mustBelow(t, u, b, j) || !same(mustJoin(t, u, b, a), j) || !same(mustJoin(t, u, a, a), a) || !same(mustJoin(t, u, a, none()), a) {
			t.Fatalf("Join, %v, of %v, %v: %v", u.Shape, a, b, j)
		}
		if !same(mustJoin(t, u, j, c), mustJoin(t, u, a, mustJoin(t, u, b, c))) {
			t.Fatalf("Join, %v, of %v, %v, %v", u.Shape, a, b, c)
		}
		for _, d := range []api.Elem{c, mustJoin(t, u, j, c), mustJoin(t, u, a, c)} {
			above := mustBelow(t, u, a, d) && mustBelow(t, u, b, d)
			if above != mustBelow(t, u, j, d) {
				t.Fatalf("%v: %v is above %v and %v: %v", u.Shape, d, a, b, above)
			}
			if !above {
				met++
			}
		}
	})
	if met < 1000 {
		t.Errorf("%d elements were not above both", met)
	}
}

// P4.10: what is wrong, and what excludes, for ever.
func TestWrongForEver(t *testing.T) {
	wrong, apart := 0, 0
	triples(t, 13, 300, func(u api.Lattice, a, b, c api.Elem) {
		above := mustJoin(t, u, b, c)
		is, e := elem.IsWrong(u, b)
		still, f := elem.IsWrong(u, above)
		if e != api.OK || f != api.OK || is && !still {
			t.Fatalf("%v: %v is wrong, %v is not", u.Shape, b, above)
		}
		if mustExclude(t, u, a, b) {
			apart++
			if !mustExclude(t, u, a, above) || !mustExclude(t, u, b, a) {
				t.Fatalf("%v: %v excludes %v, but not %v", u.Shape, a, b, above)
			}
		}
		if is {
			wrong++
		}
	})
	if wrong < 500 || apart < 500 {
		t.Errorf("%d wrong elements, %d that exclude others", wrong, apart)
	}
}

// P4.11: an element is the join of its pieces, is below another one just if they all are, and a piece has no other ones.
func TestPiecesOfAll(t *testing.T) {
	triples(t, 14, 200, func(u api.Lattice, a, b, _ api.Elem) {
		l := mustPieces(t, u, a)
		if !same(mustJoin(t, u, l...), a) {
			t.Fatalf("Pieces, %v, of %v: %v", u.Shape, a, l)
		}
		for _, d := range []api.Elem{b, mustJoin(t, u, a, b)} {
			all := true
			for _, p := range l {
				all = all && mustBelow(t, u, p, d)
			}
			if all != mustBelow(t, u, a, d) {
				t.Fatalf("%v: the pieces of %v are below %v: %v", u.Shape, a, d, all)
			}
		}
		for _, p := range l {
			mustHold(t, u, "Pieces", p)
			if again := mustPieces(t, u, p); len(again) != 1 || !same(again[0], p) {
				t.Fatalf("Pieces, %v, of the piece %v: %v", u.Shape, p, again)
			}
		}
	})
}

// P4.12: what one element has more than another one.
func TestDeltas(t *testing.T) {
	triples(t, 15, 200, func(u api.Lattice, a, c, _ api.Elem) {
		for _, b := range []api.Elem{c, mustJoin(t, u, a, c), none(), a} {
			d, e := elem.Delta(u, a, b)
			if e != api.OK || !same(mustJoin(t, u, a, d), mustJoin(t, u, a, b)) || !mustBelow(t, u, d, b) || same(d, none()) != mustBelow(t, u, b, a) {
				t.Fatalf("Delta, %v, of %v, %v: %v, %v", u.Shape, a, b, d, e)
			}
			mustHold(t, u, "Delta", d)
		}
		if d, e := elem.Delta(u, none(), a); !same(d, a) || e != api.OK {
			t.Fatalf("Delta, %v, of the bottom, %v: %v, %v", u.Shape, a, d, e)
		}
	})
}

// P4.13, P4.15: texts and bytes, there and back.
func TestThereAndBack(t *testing.T) {
	triples(t, 16, 100, func(u api.Lattice, a, b, c api.Elem) {
		x := mustJoin(t, u, a, b, c)
		s, e := elem.Text(u, x)
		y, f := elem.Parse(u, s)
		if e != api.OK || f != api.OK || !same(x, y) {
			t.Fatalf("Parse, %v, of the text %q of %v: %v, %v, %v", u.Shape, s, x, y, e, f)
		}
		mustHold(t, u, "Parse", y)
		l, e := elem.Bytes(u, x)
		z, f := elem.Read(u, l)
		if e != api.OK || f != api.OK || !same(x, z) {
			t.Fatalf("Read, %v, of the bytes %v of %v: %v, %v, %v", u.Shape, l, x, z, e, f)
		}
		mustHold(t, u, "Read", z)
		_, e = elem.Parse(u, s+" ")
		_, f = elem.Read(u, append(l, 0))
		_, g := elem.Read(u, l[:len(l)-1])
		if e != api.ErrForm || f != api.ErrForm || g != api.ErrForm {
			t.Fatalf("%v, of %v, a blank, a byte more, a byte less: %v, %v, %v", u.Shape, x, e, f, g)
		}
	})
}

// P4.14: of two elements that are not the same just one comes before the other one, also beyond a third one.
func TestOneOrder(t *testing.T) {
	triples(t, 17, 300, func(u api.Lattice, a, b, c api.Elem) {
		if elem.Less(a, b) && elem.Less(b, a) || same(a, b) == (elem.Less(a, b) || elem.Less(b, a)) {
			t.Fatalf("Less of %v, %v: %v, %v", a, b, elem.Less(a, b), elem.Less(b, a))
		}
		if elem.Less(a, b) && elem.Less(b, c) && !elem.Less(a, c) {
			t.Fatalf("Less of %v, %v, %v", a, b, c)
		}
	})
}

// P4.15: joins are elements of the lattice.
func TestRight(t *testing.T) {
	pairsOf(t, 18, func(u api.Lattice, a, b api.Elem) {
		j, e := elem.Join(u, a, b)
		if e != api.OK {
			t.Fatalf("Join, %v, of %v, %v: %v", u.Shape, a, b, e)
		}
		mustHold(t, u, "Join", j)
	})
}

// roomy returns an element with room behind its lists, in which something stands.
func roomy(e api.Elem) api.Elem {
	out := api.Elem{Kind: e.Kind, N: e.N}
	out.Keys = append(slices.Clone(e.Keys), 71, 72, 73)[:len(e.Keys)]
	for _, kid := range e.Kids {
		out.Kids = append(out.Kids, roomy(kid))
	}
	out.Kids = append(out.Kids, whole(81), whole(82))[:len(e.Kids)]
	return out
}

// untouched says whether what stands behind the lists of a roomy element is still there.
func untouched(e api.Elem) bool {
	keys, kids := e.Keys[:len(e.Keys)+3][len(e.Keys):], e.Kids[:len(e.Kids)+2][len(e.Kids):]
	return slices.Equal(keys, []int{71, 72, 73}) && slices.EqualFunc(kids, []api.Elem{whole(81), whole(82)}, same) && !slices.ContainsFunc(e.Kids, func(kid api.Elem) bool { return !untouched(kid) })
}

// scribble writes over all of the memory of an element.
func scribble(e api.Elem) {
	for _, kid := range e.Kids {
		scribble(kid)
	}
	clear(e.Keys[:cap(e.Keys)])
	for i := range e.Kids[:cap(e.Kids)] {
		e.Kids[:cap(e.Kids)][i] = api.Elem{Kind: 77}
	}
}

// R3, R4: no argument changes, nor what lies behind its lists; results have memory of their own, one by one; two calls have the same results.
func TestMemory(t *testing.T) {
	pairsOf(t, 19, func(u api.Lattice, x, y api.Elem) {
		a, b := roomy(x), roomy(y)
		list := []api.Elem{a, b, whole(91)}[:2]
		results := func() []api.Elem {
			j, _ := elem.Join(u, a, b)
			k, _ := elem.JoinAll(u, list)
			one, _ := elem.JoinAll(u, list[:1])
			d, _ := elem.Delta(u, a, b)
			all, _ := elem.Delta(u, none(), a)
			l, _ := elem.Pieces(u, b)
			s, _ := elem.Text(u, a)
			read, _ := elem.Parse(u, s)
			bytes, _ := elem.Bytes(u, b)
			unpacked, _ := elem.Read(u, bytes)
			clear(bytes[:cap(bytes)])
			elem.Below(u, a, b)
			elem.Excludes(u, a, b)
			elem.IsWrong(u, a)
			elem.Less(a, b)
			return append(l[:len(l):len(l)], j, k, one, d, all, read, unpacked)
		}
		first, second := results(), results()
		if !slices.EqualFunc(first, second, same) {
			t.Fatalf("two calls with %v, %v: %v, %v", a, b, first, second)
		}
		for i, z := range first {
			if !same(z, second[i]) {
				t.Fatalf("%v, %v: result %d shares memory with another one", a, b, i)
			}
			scribble(z)
		}
		if !same(a, x) || !same(b, y) || !untouched(a) || !untouched(b) || !same(list[:3][2], whole(91)) {
			t.Fatalf("%v, %v changed: %v, %v", x, y, a, b)
		}
	})
}

// P1, P4.1: what has itself as a kid is none of a lattice, and all functions come to an end with it.
func TestEndless(t *testing.T) {
	l := make([]api.Elem, 2)
	l[0], l[1] = pairOf(l...), pairOf(l...)
	k := make([]api.Elem, 3)
	for i := range k {
		k[i] = mapOf([]int{1, 2, 3}, k...)
	}
	for _, shape := range great() {
		u := latticeOf(t, shape)
		for _, x := range []api.Elem{l[0], k[0], endless(3, 1), endless(2, 2)} {
			for _, c := range calls()[:10] {
				if e, zero := c.do(u, x, x); e != api.ErrArg || !zero {
					t.Errorf("%s, %s, of an endless element: %v, %v", c.name, shape, e, zero)
				}
			}
		}
	}
}
