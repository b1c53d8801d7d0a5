package code

import (
	"iter"
	"slices"

	"dripstone/api"
)

// module is code that is looked at.
type module struct {
	api.Code
	deeds map[uint8]func(*step) api.Errno // what instructions need, and do, by their operations
}

// prove returns a module that has no error, or the error.
func prove(c api.Code) (*module, api.Errno) {
	m := &module{Code: c, deeds: deeds()}
	switch {
	case !m.limited():
		return nil, api.ErrLimit
	case !m.formed():
		return nil, api.ErrForm
	case !m.distinct():
		return nil, api.ErrTwice
	case !m.named():
		return nil, api.ErrName
	}
	for n, s := range m.Segments {
		if e := m.walk(n).goTo(len(s.Ins)); e != api.OK {
			return nil, e
		}
	}
	return m, api.OK
}

// proveSegment returns a segment of a module that has no error, to be gone through, or the error.
func proveSegment(c api.Code, n int) (*walk, api.Errno) {
	m, e := prove(c)
	if e != api.OK {
		return nil, e
	}
	if n < 0 || n >= len(m.Segments) {
		return nil, api.ErrNone
	}
	return m.walk(n), api.OK
}

// distinct says whether all names of segments and uses are different, and all sites of each segment.
func (m *module) distinct() bool {
	var names []string
	for _, s := range m.Segments {
		names = append(names, s.Name)
	}
	for _, u := range m.Uses {
		names = append(names, u.Name)
	}
	return different(slices.Values(names)) && every(m.Segments, func(s api.Segment) bool { return different(sites(s)) })
}

// named says whether all that is named is there.
func (m *module) named() bool {
	return every(m.Segments, func(s api.Segment) bool {
		return every(s.Ins, func(i api.Ins) bool {
			switch i.Op {
			case api.OSpawn:
				_, ok := m.params(i.Name)
				return ok
			case api.OEach:
				return m.find(i.Name) >= 0
			}
			return true
		})
	})
}

// find returns the number of the segment with a name, or -1.
func (m *module) find(name string) int {
	return slices.IndexFunc(m.Segments, func(s api.Segment) bool { return s.Name == name })
}

// params returns the kinds of the params of the segment or the use with a name, and whether there is one.
func (m *module) params(name string) ([]int, bool) {
	if n := m.find(name); n >= 0 {
		return m.Segments[n].Params, true
	}
	for _, u := range m.Uses {
		if u.Name == name {
			return u.Params, true
		}
	}
	return nil, false
}

// isShape says whether there is a shape with a number, and it is of one of some kinds (if none is named: of any).
func (m *module) isShape(n int, kinds ...uint8) bool {
	return n >= 0 && n < len(m.Shapes) && (len(kinds) == 0 || slices.Contains(kinds, m.Shapes[n].Kind))
}

// shapeNumber returns the number of a shape, or -1 if the module has it not.
func (m *module) shapeNumber(s api.Shape) int {
	return slices.IndexFunc(m.Shapes, func(other api.Shape) bool { return sameShape(s, other) })
}

// lattice returns the lattice of a shape.
func (m *module) lattice(shape int) api.Lattice {
	return api.Lattice{Tables: m.Tables, Shape: m.Shapes[shape]}
}

// calls returns the segments that a segment names, ascending.
func (m *module) calls(n int) []int {
	var out []int
	for _, i := range m.Segments[n].Ins {
		if i.Op != api.OSpawn && i.Op != api.OEach {
			continue
		}
		if to := m.find(i.Name); to >= 0 {
			out = append(out, to)
		}
	}
	slices.Sort(out)
	return slices.Compact(out)
}

// reach returns the segments to which one comes from a segment in one or more steps, ascending.
func (m *module) reach(n int) []int {
	var out []int
	met := make([]bool, len(m.Segments))
	for todo := m.calls(n); len(todo) > 0; {
		to := todo[0]
		todo = todo[1:]
		if !met[to] {
			met[to] = true
			out = append(out, to)
			todo = append(todo, m.calls(to)...)
		}
	}
	slices.Sort(out)
	return out
}

// instructions returns how many instructions there are in all segments.
func (m *module) instructions() int {
	out := 0
	for _, s := range m.Segments {
		out += len(s.Ins)
	}
	return out
}

// sites returns how many sites there are in all segments.
func (m *module) sites() int {
	out := 0
	for _, s := range m.Segments {
		for range sites(s) {
			out++
		}
	}
	return out
}

// sites yields the sites of a segment, in the order of its instructions. An ODone has that of its OAll.
func sites(s api.Segment) iter.Seq[int] {
	return func(yield func(int) bool) {
		for _, i := range s.Ins {
			if i.Op != api.ODone && has(i, 'T') && !yield(i.Site) {
				return
			}
		}
	}
}
