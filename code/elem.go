package code

import (
	"dripstone/api"
	"dripstone/elem"
)

// makes says that A holds an element of the shape of the step from now on: this one, if it is known. It says whether what the step needs is there.
func (s *step) makes(needs, known bool, e api.Elem) api.Errno {
	if !known {
		e = api.Elem{}
	}
	return s.result(needs, api.Held{Kind: api.HeldElem, S: s.S, Known: known, E: e})
}

// kid returns the element that is known of a register, to be the kid of another one: they share no memory.
func (s *step) kid(r int) api.Elem {
	return copiedElem(s.Regs[r].E)
}

func (s *step) doOn() api.Errno {
	return s.makes(true, true, api.Elem{Kind: api.ElemOn})
}

func (s *step) doName() api.Errno {
	return s.makes(true, true, api.Elem{Kind: api.ElemName, N: s.N})
}

func (s *step) doPoint() api.Errno {
	n := s.Regs[s.B]
	return s.makes(s.isInt(s.B), n.Known, api.Elem{Kind: api.ElemInt, N: n.N})
}

func (s *step) doSet() api.Errno {
	key := s.Regs[s.B]
	return s.makes(s.isInt(s.B), key.Known, api.Elem{Kind: api.ElemSet, Keys: []int{key.N}})
}

func (s *step) doKey() api.Errno {
	key := s.Regs[s.B]
	needs := s.isInt(s.B) && s.isElem(s.C, s.kidNumber(0))
	known := key.Known && s.Regs[s.C].Known
	return s.makes(needs, known, api.Elem{Kind: api.ElemMap, Keys: []int{key.N}, Kids: []api.Elem{s.kid(s.C)}})
}

func (s *step) doPair() api.Errno {
	needs, known := true, true
	out := api.Elem{Kind: api.ElemPair, Kids: make([]api.Elem, 2)}
	for i, r := range []int{s.B, s.C} {
		// Without a register it is the bottom.
		if r == -1 {
			continue
		}
		needs = needs && s.isElem(r, s.kidNumber(i))
		known = known && s.Regs[r].Known
		out.Kids[i] = s.kid(r)
	}
	return s.makes(needs, known, out)
}

func (s *step) doJoin() api.Errno {
	if !s.isElem(s.B, s.S) || !s.isElem(s.C, s.S) {
		return api.ErrType
	}
	a, b := s.Regs[s.B], s.Regs[s.C]
	if !a.Known || !b.Known {
		return s.makes(true, false, api.Elem{})
	}
	// There is an error if the join has too many keys.
	join, e := elem.Join(s.lattice(s.S), a.E, b.E)
	return s.makes(true, e == api.OK, join)
}

// kidNumber returns the number of a kid of the shape of the step, or -1, if it has none: then no register holds an element of it.
func (s *step) kidNumber(i int) int {
	return s.shapeNumber(s.Shapes[s.S].Kids[i])
}

// clear says whether no two cases of a step can hold at once: there is just one, or the elements of all are known, and exclude each other.
func (s *step) clear(shape int) bool {
	lattice := s.lattice(shape)
	for i, c := range s.Cases {
		for _, before := range s.Cases[:i] {
			a, b := s.Regs[before.Reg], s.Regs[c.Reg]
			if !a.Known || !b.Known {
				return false
			}
			if excludes, _ := elem.Excludes(lattice, a.E, b.E); !excludes {
				return false
			}
		}
	}
	return true
}
