package order

import (
	"iter"

	"dripstone/api"
)

// walked is a table whose steps are known: beyond an element are those to which one comes from it by one step or more.
type walked struct {
	api.Table
	beyond [api.MaxElems]group
}

// walk finds out where the steps of a table lead that has its form.
func walk(t api.Table) *walked {
	w := &walked{Table: t}
	for a, above := range w.Above {
		for _, b := range above {
			w.beyond[a] |= one(b)
		}
	}
	// After each turn all ways are known that are between their ends by elements up to this one.
	for between := range w.Elems {
		for a := range w.Elems {
			if w.beyond[a].has(between) {
				w.beyond[a] |= w.beyond[between]
			}
		}
	}
	return w
}

// table returns a table with its steps, or its error, or that of elements of which it has not all.
func table(t api.Table, elems ...int) (*walked, api.Errno) {
	if !formed(t) {
		return nil, api.ErrForm
	}
	w := walk(t)
	return w, w.missing(elems...)
}

// lattice returns a table with its steps, or an error, as table does, and before that of elements the one of a table that is no lattice.
func lattice(t api.Table, elems ...int) (*walked, api.Errno) {
	w, e := table(t)
	if e != api.OK {
		return nil, e
	}
	if w.firstBreak().Kind != 0 {
		return nil, api.ErrFalse
	}
	return w, w.missing(elems...)
}

// missing returns the error of elements of which the table has not all.
func (w *walked) missing(elems ...int) api.Errno {
	if every(elems, func(a int) bool { return a >= 0 && a < len(w.Elems) }) {
		return api.OK
	}
	return api.ErrNone
}

// pairs yields the pairs of elements of which the first one is smaller, in their order.
func (w *walked) pairs() iter.Seq2[int, int] {
	return func(yield func(int, int) bool) {
		for a := range w.Elems {
			for b := a + 1; b < len(w.Elems); b++ {
				if !yield(a, b) {
					return
				}
			}
		}
	}
}

// above returns the elements that are above all of some.
func (w *walked) above(elems ...int) group {
	out := one(len(w.Elems)) - 1
	for _, a := range elems {
		out &= w.beyond[a] | one(a)
	}
	return out
}

// join returns the join of two elements, and whether there is one.
func (w *walked) join(a, b int) (int, bool) {
	both := w.above(a, b)
	for j := range both.each() {
		if both&^w.above(j) == 0 {
			return j, true
		}
	}
	return 0, false
}

// primes returns the primes of a lattice.
func (w *walked) primes() group {
	out := w.above(0) &^ one(0)
	for a, b := range w.pairs() {
		if j, _ := w.join(a, b); j != a && j != b {
			out &^= one(j)
		}
	}
	return out
}

// parts returns the parts of an element of a lattice.
func (w *walked) parts(a int) group {
	var below, out group
	for p := range w.primes().each() {
		if w.above(p).has(a) {
			below |= one(p)
		}
	}
	for p := range below.each() {
		if w.beyond[p]&below == 0 {
			out |= one(p)
		}
	}
	return out
}

// rightAbove returns the elements of a lattice that are right above one.
func (w *walked) rightAbove(a int) group {
	out := w.beyond[a]
	for b := range w.beyond[a].each() {
		out &^= w.beyond[b]
	}
	return out
}

// height returns the greatest number of steps, each to another element above, from an element of a lattice on.
func (w *walked) height(a int) int {
	most := 0
	for b := range w.rightAbove(a).each() {
		most = max(most, 1+w.height(b))
	}
	return most
}
