package code

import (
	"cmp"
	"iter"
	"slices"

	"dripstone/api"
)

// walk is a segment of a module that is gone through, from its first place on: what the ways to each place say that is still to come.
type walk struct {
	*module
	segment api.Segment
	sights  []sight
}

// sight is what is known before an instruction. It is torn if ways meet there on which other pools are open.
type sight struct {
	api.Sight
	torn bool
}

// step is an instruction of a segment, at its place, with what is known before it, and, when it is done, behind it.
type step struct {
	*walk
	api.Ins
	api.Sight
	at int
}

// walk returns a segment before its first instruction.
func (m *module) walk(n int) *walk {
	return &walk{module: m, segment: m.Segments[n]}
}

// goTo goes through all instructions before a place, in a segment that has its form, and returns the error of the first one that has one.
func (w *walk) goTo(end int) api.Errno {
	w.sights = make([]sight, len(w.segment.Ins))
	w.sights[0].Sight = w.first()
	for at, i := range w.segment.Ins[:end] {
		before := w.sights[at]
		// Nobody needs it any more, and elements can be large.
		w.sights[at] = sight{}
		if !before.Reached {
			continue
		}
		if before.torn {
			return api.ErrState
		}
		s := &step{walk: w, Ins: i, Sight: before.Sight, at: at}
		if e := w.deeds[s.Op](s); e != api.OK {
			return e
		}
		for to := range w.next(at) {
			way := s.Sight
			// The next place keeps the memory, which is not written to as long as other places need it.
			if to != at+1 {
				way = copiedSight(way)
			}
			w.sights[to].meet(way)
		}
	}
	return api.OK
}

// first returns what is known before the first instruction.
func (w *walk) first() api.Sight {
	out := api.Sight{Reached: true, Regs: make([]api.Held, w.segment.Regs)}
	for i, kind := range w.segment.Params {
		switch {
		case kind == -1:
			out.Regs[i].Kind = api.HeldInt
		case kind >= 0:
			out.Regs[i] = api.Held{Kind: api.HeldShared, S: kind}
		default:
			out.Regs[i] = api.Held{Kind: api.HeldValue, S: -2 - kind}
		}
	}
	return out
}

// goesOn says whether the next instruction follows one.
func goesOn(op uint8) bool {
	return op != api.OWhen && op != api.OJump && op != api.OFail && op != api.OHalt
}

// next yields the places that can come next behind an instruction.
func (w *walk) next(at int) iter.Seq[int] {
	i := w.segment.Ins[at]
	return func(yield func(int) bool) {
		if goesOn(i.Op) && !yield(at+1) {
			return
		}
		if (i.Op == api.OJump || i.Op == api.OZero) && !yield(i.N) {
			return
		}
		for _, c := range i.Cases {
			if !yield(c.To) {
				return
			}
		}
	}
}

// copiedSight returns what is known somewhere, in other memory, but for that of elements, which is never written to.
func copiedSight(s api.Sight) api.Sight {
	return api.Sight{Reached: s.Reached, Regs: slices.Clone(s.Regs), Pools: slices.Clone(s.Pools), Passed: slices.Clone(s.Passed)}
}

// meet adds what one more way to a place says.
func (s *sight) meet(way api.Sight) {
	if !s.Reached {
		s.Sight = way
		return
	}
	s.torn = s.torn || !slices.Equal(s.Pools, way.Pools)
	for r, h := range way.Regs {
		s.Regs[r] = common(s.Regs[r], h)
	}
	s.Passed = united(slices.Concat(s.Passed, way.Passed))
}

// common returns what is known of a register of which two ways say something.
func common(a, b api.Held) api.Held {
	if a.Kind != b.Kind || a.S != b.S || a.At != b.At {
		return api.Held{}
	}
	if a.Known && b.Known && a.N == b.N && sameElem(a.E, b.E) {
		return a
	}
	return api.Held{Kind: a.Kind, S: a.S, At: a.At}
}

// united returns what was passed on, ascending, each once.
func united(l []api.Pass) []api.Pass {
	slices.SortFunc(l, func(a, b api.Pass) int {
		return cmp.Or(cmp.Compare(a.New, b.New), cmp.Compare(a.All, b.All))
	})
	return slices.Compact(l)
}

// steps returns the fewest and the most steps of a way from the first place on.
func (w *walk) steps() (least, most int) {
	n := len(w.segment.Ins)
	fewest, longest := make([]int, n), make([]int, n)
	for at := n - 1; at >= 0; at-- {
		ends := slices.Collect(w.next(at))
		for i, to := range ends {
			if i == 0 || fewest[to] < fewest[at] {
				fewest[at] = fewest[to]
			}
			longest[at] = max(longest[at], longest[to])
		}
		if isStep(w.segment.Ins[at].Op) {
			fewest[at]++
			longest[at]++
		}
	}
	return fewest[0], longest[0]
}

// isStep says whether an instruction counts as a step.
func isStep(op uint8) bool {
	switch op {
	case api.ONote, api.ONew, api.OPut, api.OSpawn, api.OWhen, api.OEach, api.ODone, api.OFreeze, api.OFail:
		return true
	}
	return false
}
