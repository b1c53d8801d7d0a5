package code

import (
	"slices"

	"dripstone/api"
)

// deeds returns what instructions need, and do, by their operations. A deed returns the error of its step, or changes what is known to what is known behind it.
func deeds() map[uint8]func(*step) api.Errno {
	return map[uint8]func(*step) api.Errno{
		api.OInt:    (*step).doInt,
		api.OArith:  (*step).doArith,
		api.OOn:     (*step).doOn,
		api.OName:   (*step).doName,
		api.OPoint:  (*step).doPoint,
		api.OSet:    (*step).doSet,
		api.OKey:    (*step).doKey,
		api.OPair:   (*step).doPair,
		api.OJoin:   (*step).doJoin,
		api.ONew:    (*step).doNew,
		api.OPut:    (*step).doPut,
		api.OSpawn:  (*step).doSpawn,
		api.OWhen:   (*step).doWhen,
		api.OEach:   (*step).doEach,
		api.OAll:    (*step).doAll,
		api.ODone:   (*step).doDone,
		api.OFreeze: (*step).doFreeze,
		api.OSize:   (*step).doSize,
		api.OHas:    (*step).doHas,
		api.OValue:  (*step).doValue,
		api.OJump:   (*step).doNothing,
		api.OZero:   (*step).doZero,
		api.ONote:   (*step).doNothing,
		api.OFail:   (*step).doZero,
		api.OHalt:   (*step).doHalt,
	}
}

// result says what A holds from now on. It says whether what the step needs is there.
func (s *step) result(needs bool, h api.Held) api.Errno {
	if !needs {
		return api.ErrType
	}
	s.Regs[s.A] = h
	return api.OK
}

// anInt is an integer of which nothing more is known.
func anInt() api.Held {
	return api.Held{Kind: api.HeldInt}
}

func (s *step) doInt() api.Errno {
	return s.result(true, api.Held{Kind: api.HeldInt, Known: true, N: s.N})
}

func (s *step) doArith() api.Errno {
	return s.result(s.isInt(s.B) && (s.Name == neg || s.isInt(s.C)), anInt())
}

func (s *step) doNew() api.Errno {
	if s.B == 1 {
		return s.result(true, api.Held{Kind: api.HeldShared, S: s.S})
	}
	return s.result(true, api.Held{Kind: api.HeldOwn, S: s.S, At: s.at})
}

func (s *step) doPut() api.Errno {
	if !s.isVariable(s.A) || !s.isElem(s.B, s.Regs[s.A].S) {
		return api.ErrType
	}
	return api.OK
}

func (s *step) doSpawn() api.Errno {
	params, _ := s.params(s.Name)
	if !s.fit(s.Args, params) {
		return api.ErrType
	}
	return s.passOn(s.Args...)
}

func (s *step) doWhen() api.Errno {
	if !s.isVariable(s.A) {
		return api.ErrType
	}
	shape := s.Regs[s.A].S
	if !every(s.Cases, func(c api.Case) bool { return s.isElem(c.Reg, shape) }) || !s.clear(shape) {
		return api.ErrType
	}
	return api.OK
}

func (s *step) doEach() api.Errno {
	params := s.Segments[s.find(s.Name)].Params
	last := len(params) - 1
	if !s.isOwn(s.A) || !s.isShape(s.Regs[s.A].S, api.ShapeSet, api.ShapeMap) || last < 0 || params[last] != -1 || !s.fit(s.Args, params[:last]) {
		return api.ErrType
	}
	if len(s.Pools) == 0 || s.passedIn(s.A, s.Pools[:len(s.Pools)-1]) {
		return api.ErrState
	}
	return s.passOn(slices.Concat(s.Args, []int{s.A})...)
}

func (s *step) doAll() api.Errno {
	if len(s.Pools) == api.MaxPools {
		return api.ErrState
	}
	s.Pools = append(s.Pools, s.at)
	return api.OK
}

func (s *step) doDone() api.Errno {
	last := len(s.Pools) - 1
	if last < 0 || s.segment.Ins[s.Pools[last]].Site != s.Site {
		return api.ErrState
	}
	ended := s.Pools[last]
	s.Pools = s.Pools[:last]
	s.Passed = slices.DeleteFunc(s.Passed, func(p api.Pass) bool { return p.All == ended })
	return api.OK
}

func (s *step) doFreeze() api.Errno {
	if !s.isOwn(s.B) {
		return api.ErrType
	}
	if s.passedIn(s.B, s.Pools) {
		return api.ErrState
	}
	shape := s.Regs[s.B].S
	s.Regs[s.B] = api.Held{}
	s.Regs[s.A] = api.Held{Kind: api.HeldValue, S: shape}
	return api.OK
}

func (s *step) doSize() api.Errno {
	return s.result(s.isValue(s.B, api.ShapeSet, api.ShapeMap), anInt())
}

func (s *step) doHas() api.Errno {
	return s.result(s.isValue(s.B, api.ShapeSet, api.ShapeMap) && s.isInt(s.C), anInt())
}

func (s *step) doValue() api.Errno {
	return s.result(s.isValue(s.B, api.ShapeMax, api.ShapeOnce) && s.isInt(s.C), anInt())
}

// doZero is what an instruction does that needs an integer in A, and changes nothing.
func (s *step) doZero() api.Errno {
	if !s.isInt(s.A) {
		return api.ErrType
	}
	return api.OK
}

func (s *step) doHalt() api.Errno {
	if len(s.Pools) > 0 {
		return api.ErrState
	}
	return api.OK
}

// doNothing is what an instruction does that needs nothing, and changes nothing.
func (s *step) doNothing() api.Errno {
	return api.OK
}
