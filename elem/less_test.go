package elem_test

import (
	"math"
	"math/rand"
	"slices"
	"testing"

	"dripstone/api"
	"dripstone/elem"
)

// ascending returns elements, most of them of no lattice, each of which comes before all that stand behind it.
func ascending() []api.Elem {
	return []api.Elem{
		{N: math.MinInt}, {N: -1}, {}, {Kids: []api.Elem{{}}}, {Kids: []api.Elem{{}, {}}}, {Kids: []api.Elem{{N: 1}}}, {Keys: []int{math.MinInt}}, {Keys: []int{-1}}, {Keys: []int{-1, -5}}, {Keys: []int{0}}, {Keys: []int{math.MaxInt}}, {N: 1}, {N: math.MaxInt},
		{Kind: 1, N: -1}, on(), {Kind: 1, Kids: []api.Elem{{N: -9}}}, {Kind: 1, Keys: []int{1}},
		whole(-7), {Kind: 2, N: -7, Keys: []int{1}}, whole(-1), whole(0), whole(7), clash(), name(1), name(2), name(12),
		set(-1), set(-1, 0), set(-1, 7), set(0), set(0, 1), set(0, 1, 2), set(0, 2), set(1),
		mapOf([]int{1}, on()), mapOf([]int{1}, on(), on()), mapOf([]int{1}, whole(-3)), mapOf([]int{1}, whole(3)), mapOf([]int{1, 2}, on(), whole(1)), mapOf([]int{1, 2}, on(), whole(2)), mapOf([]int{1, 2}, whole(0), on()), mapOf([]int{2}, none()),
		pairOf(none(), on()), pairOf(on(), none()), pairOf(on(), pairOf(on(), none())), pairOf(on(), pairOf(on(), on())), pairOf(whole(1), none()), {Kind: 7, N: 1}, {Kind: 8}, {Kind: 255, N: -1}, {Kind: 255},
	}
}

// P4.8: which of two elements comes before the other one, by hand.
func TestLess(t *testing.T) {
	for i, a := range ascending() {
		for j, b := range ascending() {
			if elem.Less(a, b) != (i < j) {
				t.Errorf("Less of %v, %v: %v", a, b, i >= j)
			}
		}
	}
	empty := api.Elem{Kind: api.ElemSet, Keys: []int{}, Kids: []api.Elem{}}
	if elem.Less(empty, set()) || elem.Less(set(), empty) {
		t.Error("an empty list is another one than nil")
	}
}

// plainLess compares two elements as the chapter says it.
func plainLess(a, b api.Elem) int {
	if a.Kind != b.Kind {
		return int(a.Kind) - int(b.Kind)
	}
	if a.N != b.N {
		return a.N - b.N
	}
	for i := range min(len(a.Keys), len(b.Keys)) {
		if a.Keys[i] != b.Keys[i] {
			return a.Keys[i] - b.Keys[i]
		}
	}
	if len(a.Keys) != len(b.Keys) {
		return len(a.Keys) - len(b.Keys)
	}
	for i := range min(len(a.Kids), len(b.Kids)) {
		if c := plainLess(a.Kids[i], b.Kids[i]); c != 0 {
			return c
		}
	}
	return len(a.Kids) - len(b.Kids)
}

// wild returns an element of no lattice.
func wild(r *rand.Rand, levels int) api.Elem {
	out := api.Elem{Kind: uint8(r.Intn(2)), N: r.Intn(2) * r.Intn(2)}
	for range r.Intn(3) * r.Intn(2) {
		out.Keys = append(out.Keys, r.Intn(2))
	}
	for range r.Intn(3) {
		if levels > 1 {
			out.Kids = append(out.Kids, wild(r, levels-1))
		}
	}
	return out
}

// P4.8, P4.14: Less is an order of all elements.
func TestLessWild(t *testing.T) {
	r := rand.New(rand.NewSource(5))
	met := [3]int{}
	check := func(a, b api.Elem) {
		c := plainLess(a, b)
		if elem.Less(a, b) != (c < 0) || elem.Less(b, a) != (c > 0) || same(a, b) != (c == 0) {
			t.Fatalf("Less of %v, %v: %v, %v", a, b, elem.Less(a, b), elem.Less(b, a))
		}
		switch {
		case c < 0:
			met[0]++
		case c > 0:
			met[1]++
		default:
			met[2]++
		}
	}
	var l []api.Elem
	for range 20000 {
		a := wild(r, 4)
		b := copyElem(a)
		for range r.Intn(2) {
			spoil(r, &b)
		}
		check(a, b)
		check(a, wild(r, 4))
		l = append(l, a)
	}
	pairsOf(t, 6, func(_ api.Lattice, a, b api.Elem) { check(a, b) })
	if slices.Min(met[:]) < 5000 {
		t.Errorf("less, greater, the same: %v", met)
	}
	slices.SortFunc(l, func(a, b api.Elem) int {
		if elem.Less(a, b) {
			return -1
		}
		if elem.Less(b, a) {
			return 1
		}
		return 0
	})
	for range 20000 {
		i, j := r.Intn(len(l)), r.Intn(len(l))
		if elem.Less(l[max(i, j)], l[min(i, j)]) {
			t.Fatalf("in an ascending list %v stands before %v", l[min(i, j)], l[max(i, j)])
		}
	}
}

// endless returns an element that comes to itself in a number of levels, with some lists of kids in each; what is behind them stands behind the kid that goes on.
func endless(levels, width int, behind ...api.Elem) api.Elem {
	l := make([][]api.Elem, levels)
	for i := range l {
		l[i] = make([]api.Elem, width)
		l[i] = append(l[i], behind...)
	}
	for i := range l {
		for w := range width {
			l[i][w] = api.Elem{Kids: l[(i+1)%levels]}
		}
	}
	return api.Elem{Kids: l[0]}
}

// P1, P4.8: Less comes to an end with elements that have themselves as kids, that have the same kids very often, or that are very deep.
func TestLessEnds(t *testing.T) {
	a, b := endless(3, 1), endless(7, 1)
	if elem.Less(a, a) || elem.Less(a, b) || elem.Less(b, a) {
		t.Error("an endless element differs from one that is the same")
	}
	x, y := endless(5, 3), endless(4, 3)
	if elem.Less(x, x) || elem.Less(x, y) || elem.Less(y, x) {
		t.Error("an endless element with several kids differs from one that is the same")
	}
	x, y = endless(2, 2, on()), endless(2, 2, whole(1))
	if !elem.Less(x, y) || elem.Less(y, x) || elem.Less(y, y) {
		t.Error("endless elements that differ")
	}
	if !elem.Less(none(), a) || elem.Less(a, none()) {
		t.Error("an endless element does not come behind the bottom")
	}
	// The same list, with more of it or with less.
	l := []api.Elem{on(), on()}
	x, y = pairOf(pairOf(l[:1]...), pairOf(l[:2]...)), pairOf(pairOf(l[:1]...), pairOf(l[:1]...))
	if elem.Less(x, y) || !elem.Less(y, x) {
		t.Error("elements of lists that begin at one place")
	}
	deep, other, doubled := none(), on(), none()
	for range 1 << 16 {
		deep, other = pairOf(deep), pairOf(other)
	}
	if !elem.Less(deep, other) || elem.Less(other, deep) || elem.Less(deep, copyElem(deep)) {
		t.Error("deep elements")
	}
	for range 100 {
		doubled = pairOf(doubled, doubled)
	}
	if elem.Less(doubled, doubled) || !elem.Less(doubled, pairOf(doubled.Kids[0], api.Elem{Kind: 8})) {
		t.Error("elements with the same kids very often")
	}
}
