package code

import (
	"slices"

	"dripstone/api"
)

// isInt says whether a register holds an integer.
func (s *step) isInt(r int) bool {
	return s.Regs[r].Kind == api.HeldInt
}

// isOwn says whether a register holds an own variable.
func (s *step) isOwn(r int) bool {
	return s.Regs[r].Kind == api.HeldOwn
}

// isVariable says whether a register holds a variable.
func (s *step) isVariable(r int) bool {
	return s.isOwn(r) || s.Regs[r].Kind == api.HeldShared
}

// isElem says whether a register holds an element of a shape.
func (s *step) isElem(r, shape int) bool {
	return s.Regs[r].Kind == api.HeldElem && s.Regs[r].S == shape
}

// isValue says whether a register holds a value of a shape of one of some kinds.
func (s *step) isValue(r int, kinds ...uint8) bool {
	return s.Regs[r].Kind == api.HeldValue && s.isShape(s.Regs[r].S, kinds...)
}

// is says whether a register holds what a param of a kind needs.
func (s *step) is(r, kind int) bool {
	switch {
	case kind == -1:
		return s.isInt(r)
	case kind >= 0:
		return s.isVariable(r) && s.Regs[r].S == kind
	}
	return s.Regs[r].Kind == api.HeldValue && s.Regs[r].S == -2-kind
}

// fit says whether registers hold what params need.
func (s *step) fit(regs, params []int) bool {
	return slices.EqualFunc(regs, params, s.is)
}

// passedIn says whether the variable of a register was passed on in one of some pools.
func (s *step) passedIn(r int, pools []int) bool {
	return slices.ContainsFunc(s.Passed, func(p api.Pass) bool {
		return p.New == s.Regs[r].At && slices.Contains(pools, p.All)
	})
}

// passOn passes on all own variables of some registers.
func (s *step) passOn(regs ...int) api.Errno {
	for _, r := range regs {
		if !s.isOwn(r) {
			continue
		}
		if len(s.Pools) == 0 {
			return api.ErrState
		}
		s.Passed = append(s.Passed, api.Pass{New: s.Regs[r].At, All: s.Pools[len(s.Pools)-1]})
	}
	s.Passed = united(s.Passed)
	return api.OK
}
