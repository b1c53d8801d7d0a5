package order

import (
	"iter"
	"math/bits"
)

// group is a set of elements of a table: the bit with the number of an element is 1 if it is in it. (There are more bits than MaxElems.)
type group uint16

// one returns the group of one element.
func one(a int) group {
	return 1 << a
}

// has says whether an element is in a group.
func (g group) has(a int) bool {
	return g&one(a) != 0
}

// each yields the elements of a group, ascending.
func (g group) each() iter.Seq[int] {
	return func(yield func(int) bool) {
		for rest := g; rest != 0; rest &= rest - 1 {
			if !yield(bits.TrailingZeros16(uint16(rest))) {
				return
			}
		}
	}
}

// list returns the elements of a group, ascending.
func (g group) list() []int {
	var out []int
	for a := range g.each() {
		out = append(out, a)
	}
	return out
}
