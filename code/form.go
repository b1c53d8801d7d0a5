package code

import (
	"dripstone/api"
	"dripstone/order"
)

// limited says whether there is no more of anything than there may be.
func (m *module) limited() bool {
	return len(m.Tables) <= api.MaxTables && len(m.Shapes) <= api.MaxShapes &&
		len(m.Uses) <= api.MaxUses && len(m.Segments) <= api.MaxSegments && m.instructions() <= api.MaxIns &&
		every(m.Uses, func(u api.Sign) bool { return len(u.Params) <= api.MaxArgs }) &&
		every(m.Segments, func(s api.Segment) bool { return len(s.Params) <= api.MaxArgs && s.Regs <= api.MaxRegs })
}

// formed says whether a module has its form.
func (m *module) formed() bool {
	if !m.shapesFormed() || !every(m.Uses, m.signFormed) {
		return false
	}
	for n := range m.Segments {
		if !m.walk(n).formed() {
			return false
		}
	}
	return true
}

// shapesFormed says whether all shapes are right, with all tables, and different.
func (m *module) shapesFormed() bool {
	right := func(s api.Shape) bool { return order.CheckShape(m.Tables, s) == api.OK }
	// Without shapes nothing else looks at the tables.
	if len(m.Shapes) == 0 {
		return right(api.Shape{Kind: api.ShapeFlag})
	}
	if !every(m.Shapes, right) {
		return false
	}
	for n, s := range m.Shapes {
		if m.shapeNumber(s) != n {
			return false
		}
	}
	return true
}

// signFormed says whether the name and the kinds of a segment or a use have their forms.
func (m *module) signFormed(s api.Sign) bool {
	return isLabel(s.Name) && every(s.Params, m.isKind)
}

// isKind says whether a number is a kind: that of an integer, or of a variable or a value of a shape.
func (m *module) isKind(kind int) bool {
	return kind == -1 || m.isShape(kind) || m.isShape(-2-kind)
}

// isLabel says whether a text can be the name of a segment or a use.
func isLabel(s string) bool {
	if len(s) < 1 || len(s) > api.MaxLabel || !isLetter(s[0]) {
		return false
	}
	return every([]byte(s), func(c byte) bool { return isLetter(c) || c >= '0' && c <= '9' || c == '.' })
}

// isLetter says whether a byte is a letter of names.
func isLetter(c byte) bool {
	return c >= 'a' && c <= 'z'
}

// formed says whether a segment has its form, in which each step has.
func (w *walk) formed() bool {
	s := w.segment
	n := len(s.Ins)
	if !w.signFormed(api.Sign{Name: s.Name, Params: s.Params}) || s.Regs < len(s.Params) || n == 0 || goesOn(s.Ins[n-1].Op) {
		return false
	}
	for at, i := range s.Ins {
		x := step{walk: w, Ins: i, at: at}
		if !x.formed() {
			return false
		}
	}
	return true
}

// formed says whether an instruction has its form.
func (s *step) formed() bool {
	return isOperation(s.Op) && bare(s.Ins) && every([]byte(fieldsOf(s.Ins)), s.fieldFormed)
}

// fieldFormed says whether the field of an instruction with a letter is as it must be, if the one before it is.
func (s *step) fieldFormed(letter byte) bool {
	switch letter {
	case 'A':
		return s.isRegister(s.A)
	case 'B':
		return s.isRegister(s.B)
	case 'C':
		return s.isRegister(s.C)
	case 'b':
		return s.B == -1 || s.isRegister(s.B)
	case 'c':
		return s.C == -1 && s.B != -1 || s.isRegister(s.C)
	case 'V':
		return s.B == 0 || s.B == 1
	case 'I':
		return s.N >= -api.MaxNumber && s.N <= api.MaxNumber
	case 'E':
		return s.N >= 1 && s.N < s.elements()
	case 'P':
		return s.isPlace(s.N)
	case 'S':
		return s.isShape(s.S, s.shapeKinds()...)
	case 'T':
		return s.Site >= 0 && s.Site <= api.MaxSites
	case 'W':
		return isArithmetic(s.Name)
	case 'L':
		return isLabel(s.Name)
	case 'R':
		return every(s.Args, s.isRegister)
	}
	return s.casesFormed()
}

// isRegister says whether there is a register with a number.
func (w *walk) isRegister(r int) bool {
	return r >= 0 && r < w.segment.Regs
}

// isPlace says whether an instruction can go to a place: it is behind its own.
func (s *step) isPlace(to int) bool {
	return to > s.at && to < len(s.segment.Ins)
}

// casesFormed says whether there are as many cases as there can be, each with a register and a place.
func (s *step) casesFormed() bool {
	n := len(s.Cases)
	return n >= 1 && n <= api.MaxCases && every(s.Cases, func(c api.Case) bool { return s.isRegister(c.Reg) && s.isPlace(c.To) })
}

// shapeKinds returns of which kinds the shape of an instruction can be; nothing says that it can be of any.
func (s *step) shapeKinds() []uint8 {
	switch s.Op {
	case api.OOn:
		return []uint8{api.ShapeFlag}
	case api.OName:
		return []uint8{api.ShapeNamed}
	case api.OPoint:
		return []uint8{api.ShapeMax, api.ShapeOnce}
	case api.OSet:
		return []uint8{api.ShapeSet}
	case api.OKey:
		return []uint8{api.ShapeMap}
	case api.OPair:
		return []uint8{api.ShapePair}
	}
	return nil
}

// elements returns how many elements the table has that the shape of an instruction names.
func (s *step) elements() int {
	name := s.Shapes[s.S].Name
	for _, t := range s.Tables {
		if t.Name == name {
			return len(t.Elems)
		}
	}
	return 0
}
