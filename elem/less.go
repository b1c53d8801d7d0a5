package elem

import (
	"cmp"
	"slices"

	"dripstone/api"
)

// lists are two lists of elements that are compared.
type lists struct {
	a, b []api.Elem
}

// match tells two lists of kids from all others, by where they lie in memory.
type match struct {
	a, b             *api.Elem
	lengthA, lengthB int
}

// comparer compares lists: those that are still to be compared, the next ones last, and those of kids that were met. These are not compared again: elements can have themselves as kids, by lists that are in themselves, or have the same list of kids very often.
type comparer struct {
	todo []lists
	met  map[match]bool
}

// compare returns a number below 0 if an element comes before another one, above 0 if it comes behind it, and 0 if they are the same.
func compare(a, b api.Elem) int {
	c := &comparer{todo: []lists{{[]api.Elem{a}, []api.Elem{b}}}, met: map[match]bool{}}
	for len(c.todo) > 0 {
		last := len(c.todo) - 1
		l := c.todo[last]
		c.todo = c.todo[:last]
		if order := c.next(l); order != 0 {
			return order
		}
	}
	return 0
}

// next compares the first elements of two lists, but their kids, and leaves these and what is behind for later; 0 says that they do not differ so far.
func (c *comparer) next(l lists) int {
	if len(l.a) == 0 || len(l.b) == 0 {
		return len(l.a) - len(l.b)
	}
	x, y := l.a[0], l.b[0]
	order := cmp.Or(cmp.Compare(x.Kind, y.Kind), cmp.Compare(x.N, y.N), slices.Compare(x.Keys, y.Keys))
	if order == 0 {
		c.todo = append(c.todo, lists{l.a[1:], l.b[1:]})
		c.leaveKids(lists{x.Kids, y.Kids})
	}
	return order
}

// leaveKids leaves two lists of kids to be compared next, if they were not met.
func (c *comparer) leaveKids(l lists) {
	if len(l.a) > 0 && len(l.b) > 0 {
		m := match{&l.a[0], &l.b[0], len(l.a), len(l.b)}
		if c.met[m] {
			return
		}
		c.met[m] = true
	}
	c.todo = append(c.todo, l)
}
