package order_test

import (
	"iter"
	"math/rand"
	"slices"
	"strconv"
	"testing"

	"dripstone/api"
	"dripstone/order"
)

// Some lattices, and tables that are none.
const (
	diamondText = "lattice l { a: b, c; b: d; c: d; d! }"
	chainText   = "lattice c { none: low; low: mid; mid: high; high }"
	threeText   = "lattice m { o: a, b, c; a: t; b: t; c: t; t }"
	pentText    = "lattice n { o: a, c; a: b; b: t; c: t; t }"
	cubeText    = "lattice cube { o: a, b, c; a: ab, ac; b: ab, bc; c: ac, bc; ab: abc; ac: abc; bc: abc; abc! }"
	onlyText    = "lattice one { a }"
	cycleText   = "lattice y { a: b; b: a }"
	baseText    = "lattice k { a; b: d; c: d; d! }"
	noneText    = "lattice x { a: b, c; b; c }"
	manyText    = "lattice m { a: b, c; b: d, e; c: d, e; d; e }"
	wrongText   = "lattice p { a: b; b!: c; c }"
)

// latticeTexts are those that are lattices.
func latticeTexts() []string {
	return []string{diamondText, chainText, threeText, pentText, cubeText, onlyText}
}

// mustRead returns the table with a text.
func mustRead(t *testing.T, s string) api.Table {
	t.Helper()
	x, e := order.Parse(s)
	if e != api.OK {
		t.Fatalf("Parse of %q: %v", s, e)
	}
	return x
}

// mustJoin returns the join of two elements that have one.
func mustJoin(t *testing.T, x api.Table, a, b int) int {
	t.Helper()
	j, e := order.Join(x, a, b)
	if e != api.OK {
		t.Fatalf("Join of %d, %d of %v: %v", a, b, x, e)
	}
	return j
}

// mustBelow says whether an element is below another one, of a table that has its form.
func mustBelow(t *testing.T, x api.Table, a, b int) bool {
	t.Helper()
	is, e := order.Below(x, a, b)
	if e != api.OK {
		t.Fatalf("Below of %d, %d of %v: %v", a, b, x, e)
	}
	return is
}

// sameTable says whether two tables are the same (nil lists are empty ones).
func sameTable(a, b api.Table) bool {
	return a.Name == b.Name && slices.Equal(a.Elems, b.Elems) && slices.Equal(a.Wrong, b.Wrong) && slices.EqualFunc(a.Above, b.Above, slices.Equal[[]int])
}

// sameShape says whether two shapes are the same.
func sameShape(a, b api.Shape) bool {
	return a.Kind == b.Kind && a.Name == b.Name && slices.EqualFunc(a.Kids, b.Kids, sameShape)
}

// copyTable returns a table that shares no memory with another one.
func copyTable(x api.Table) api.Table {
	out := api.Table{Name: x.Name, Elems: slices.Clone(x.Elems), Wrong: slices.Clone(x.Wrong)}
	for _, above := range x.Above {
		out.Above = append(out.Above, slices.Clone(above))
	}
	return out
}

// emptyTable returns a table of n elements with no steps, of which none is wrong.
func emptyTable(n int) api.Table {
	out := api.Table{Name: "t", Above: make([][]int, n), Wrong: make([]bool, n)}
	for a := range n {
		out.Elems = append(out.Elems, "e"+strconv.Itoa(a))
	}
	return out
}

// tableOf returns a table of n elements: the bits of steps are those from 0 to 0, from 0 to 1, and so on; those of wrong are of the elements.
func tableOf(n, steps, wrong int) api.Table {
	out := emptyTable(n)
	for a := range n {
		for b := range n {
			if steps>>(a*n+b)&1 == 1 {
				out.Above[a] = append(out.Above[a], b)
			}
		}
		out.Wrong[a] = wrong>>a&1 == 1
	}
	return out
}

// smallTables yields all tables of at most three elements, and all of four elements, these with few choices of what is wrong.
func smallTables() iter.Seq[api.Table] {
	return func(yield func(api.Table) bool) {
		for n := 1; n <= 4; n++ {
			for steps := range 1 << (n * n) {
				for wrong := range 1 << n {
					if n == 4 && wrong != steps*7%16 {
						continue
					}
					if !yield(tableOf(n, steps, wrong)) {
						return
					}
				}
			}
		}
	}
}

// unions returns the least list of sets, as bits, that has the empty one first, and the union of any two.
func unions(sets []int) []int {
	out := []int{0}
	for _, s := range sets {
		for _, o := range slices.Clone(out) {
			if !slices.Contains(out, s|o) {
				out = append(out, s|o)
			}
		}
	}
	return out
}

// randomLattice returns a lattice: its elements are sets with their unions, in any order behind the first one; some steps go further than they must.
func randomLattice(r *rand.Rand) api.Table {
	sets := []int{0}
	for {
		more := unions(append(slices.Clone(sets), 1+r.Intn(1<<(1+r.Intn(6))-1)))
		if len(more) > api.MaxElems || r.Intn(8) == 0 {
			break
		}
		sets = more
	}
	r.Shuffle(len(sets)-1, func(i, j int) { sets[i+1], sets[j+1] = sets[j+1], sets[i+1] })
	out := emptyTable(len(sets))
	for a, s := range sets {
		for b, u := range sets {
			inside := func(v int) bool { return v != s && v != u && s&^v == 0 && v&^u == 0 }
			if s != u && s&^u == 0 && (!slices.ContainsFunc(sets, inside) || r.Intn(4) == 0) {
				out.Above[a] = append(out.Above[a], b)
			}
		}
	}
	for range r.Intn(3) {
		w := sets[r.Intn(len(sets))]
		for a, s := range sets {
			out.Wrong[a] = out.Wrong[a] || w != 0 && w&^s == 0
		}
	}
	return out
}

// spoilt returns a table with one thing changed: a step more or less, or what is wrong.
func spoilt(r *rand.Rand, x api.Table) api.Table {
	out := copyTable(x)
	a, b := r.Intn(len(x.Elems)), r.Intn(len(x.Elems))
	at, ok := slices.BinarySearch(out.Above[a], b)
	switch {
	case r.Intn(4) == 0:
		out.Wrong[a] = !out.Wrong[a]
	case ok:
		out.Above[a] = slices.Delete(out.Above[a], at, at+1)
	default:
		out.Above[a] = slices.Insert(out.Above[a], at, b)
	}
	return out
}

// manyLattices yields lattices.
func manyLattices(seed int64, n int) iter.Seq[api.Table] {
	return func(yield func(api.Table) bool) {
		r := rand.New(rand.NewSource(seed))
		for range n {
			if !yield(randomLattice(r)) {
				return
			}
		}
	}
}

// rising returns a table without cycles in which all elements are above the first one.
func rising(r *rand.Rand) api.Table {
	out := emptyTable(1 + r.Intn(api.MaxElems))
	place := append([]int{0}, r.Perm(len(out.Elems)-1)...)
	often := 1 + r.Intn(5)
	for a := range out.Elems {
		for b := 1; b < len(out.Elems); b++ {
			if a == 0 || place[a] < place[b] && r.Intn(often) == 0 {
				out.Above[a] = append(out.Above[a], b)
			}
		}
	}
	return out
}

// manyTables yields tables, most of which are nearly lattices.
func manyTables(seed int64, n int) iter.Seq[api.Table] {
	return func(yield func(api.Table) bool) {
		r := rand.New(rand.NewSource(seed))
		for x := range manyLattices(seed+1, n) {
			if r.Intn(3) == 0 {
				x = rising(r)
			}
			for range r.Intn(4) {
				x = spoilt(r, x)
			}
			if !yield(x) {
				return
			}
		}
	}
}
