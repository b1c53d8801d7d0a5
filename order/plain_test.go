package order_test

import "dripstone/api"

// plain is a table that is read as the chapter's definitions say it, with no regard to how long this takes.
type plain struct {
	api.Table
	over [][]bool // over[a][b]: one comes from a to b by one step or more
}

// newPlain goes all steps of a table.
func newPlain(t api.Table) plain {
	p := plain{Table: t}
	for a := range t.Elems {
		met := make([]bool, len(t.Elems))
		var walk func(c int)
		walk = func(c int) {
			for _, b := range t.Above[c] {
				if !met[b] {
					met[b] = true
					walk(b)
				}
			}
		}
		walk(a)
		p.over = append(p.over, met)
	}
	return p
}

// below says whether a is below b.
func (p plain) below(a, b int) bool {
	return a == b || p.over[a][b]
}

// reach returns what is above an element.
func (p plain) reach(a int) []int {
	return p.those(func(b int) bool { return p.below(a, b) })
}

// those returns the elements of which something holds.
func (p plain) those(holds func(a int) bool) []int {
	var out []int
	for a := range p.Elems {
		if holds(a) {
			out = append(out, a)
		}
	}
	return out
}

// no says whether something holds of no element.
func (p plain) no(holds func(a int) bool) bool {
	return len(p.those(holds)) == 0
}

// bounds returns the elements above both of two.
func (p plain) bounds(a, b int) []int {
	return p.those(func(c int) bool { return p.below(a, c) && p.below(b, c) })
}

// joins returns the joins of two elements.
func (p plain) joins(a, b int) []int {
	return p.those(func(j int) bool {
		return p.below(a, j) && p.below(b, j) && p.no(func(c int) bool {
			return p.below(a, c) && p.below(b, c) && !p.below(j, c)
		})
	})
}

// join returns the join of two elements of a lattice.
func (p plain) join(a, b int) int {
	return p.joins(a, b)[0]
}

// breaks returns all breaks of a table, those that are in the order of the chapter behind one another, but those of BreakNone and BreakMany by their pairs.
func (p plain) breaks() []api.Break {
	var out []api.Break
	for a := range p.Elems {
		if p.over[a][a] {
			out = append(out, api.Break{Kind: api.BreakCycle, A: a})
		}
	}
	for a := range p.Elems {
		if !p.below(0, a) {
			out = append(out, api.Break{Kind: api.BreakBase, A: a})
		}
	}
	for a := range p.Elems {
		for b := a + 1; b < len(p.Elems); b++ {
			if len(p.bounds(a, b)) == 0 {
				out = append(out, api.Break{Kind: api.BreakNone, A: a, B: b})
			} else if len(p.joins(a, b)) == 0 {
				out = append(out, api.Break{Kind: api.BreakMany, A: a, B: b})
			}
		}
	}
	if p.Wrong[0] {
		out = append(out, api.Break{Kind: api.BreakWrong})
	}
	for a := range p.Elems {
		for b := range p.Elems {
			if p.Wrong[a] && p.below(a, b) && !p.Wrong[b] {
				out = append(out, api.Break{Kind: api.BreakWrong, A: a, B: b})
			}
		}
	}
	return out
}

// primes returns the primes of a lattice.
func (p plain) primes() []int {
	return p.those(func(x int) bool {
		return x != 0 && p.no(func(a int) bool {
			return a != x && !p.no(func(b int) bool { return b != x && p.join(a, b) == x })
		})
	})
}

// parts returns the parts of an element of a lattice.
func (p plain) parts(a int) []int {
	isPrime := map[int]bool{}
	for _, x := range p.primes() {
		isPrime[x] = true
	}
	return p.those(func(x int) bool {
		return isPrime[x] && p.below(x, a) && p.no(func(y int) bool {
			return y != x && isPrime[y] && p.below(y, a) && p.below(x, y)
		})
	})
}

// height returns how many steps, each to another element above, there are at most from an element of a lattice on.
func (p plain) height(a int) int {
	most := 0
	for _, b := range p.reach(a) {
		if b != a {
			most = max(most, 1+p.height(b))
		}
	}
	return most
}

// rightAbove returns the elements of a lattice that are right above one.
func (p plain) rightAbove(a int) []int {
	return p.those(func(b int) bool {
		return b != a && p.below(a, b) && p.no(func(c int) bool {
			return c != a && c != b && p.below(a, c) && p.below(c, b)
		})
	})
}
