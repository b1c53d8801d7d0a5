package code_test

import (
	"fmt"
	"math/rand"
	"slices"
	"testing"

	"dripstone/api"
	"dripstone/code"
)

// maker makes modules without an error: it knows what is known, by the plain reading.
type maker struct {
	*rand.Rand
	plain
	s    api.Segment
	now  *state // before the next place; nil: it is not reached
	left int    // how many statements there may still be
	site int
}

// someModule returns a module.
func someModule(t *testing.T, r *rand.Rand) api.Code {
	t.Helper()
	m := &maker{Rand: r, plain: plain{mustParse(t, shapesText)}}
	for i := range r.Intn(3) {
		m.Uses = append(m.Uses, api.Sign{Name: fmt.Sprintf("far%d", i), Params: m.params()})
	}
	var l []api.Segment
	for i, name := range []string{"main", "f", "f.0", "f.1", "g"} {
		params := m.params()
		if i == 2 || i == 3 {
			params = append(params, -1)
		}
		l = append(l, api.Segment{Name: name, Params: params, Regs: len(params) + 6 + r.Intn(4)})
	}
	r.Shuffle(len(l), func(i, j int) { l[i], l[j] = l[j], l[i] })
	// What is not there yet is known by its head.
	m.Segments = slices.Clone(l)
	for n, s := range l {
		m.s, m.left, m.site = s, 6+r.Intn(30), r.Intn(500)
		first := m.first(s)
		m.now = &first
		for range m.Intn(5) {
			m.try(one(m.Rand, uint8(api.ONew), api.ONew, api.OInt))
		}
		m.block(3)
		m.add(api.Ins{Op: api.OHalt})
		l[n] = m.s
	}
	m.Segments = l
	return m.Code
}

// params returns the kinds of some params.
func (m *maker) params() []int {
	var out []int
	for range m.Intn(4) {
		out = append(out, one(m.Rand, -1, -1, 0, 0, 0, 1, 3, 3, 4, 5, 7, -2, -3, -7))
	}
	return out
}

// add puts an instruction at the next place, and goes on behind it.
func (m *maker) add(i api.Ins) {
	at := len(m.s.Ins)
	m.s.Ins = append(m.s.Ins, i)
	if m.now == nil {
		return
	}
	x := m.do(*m.now, at, i)
	m.now = &x
	if len(behind(api.Segment{Ins: m.s.Ins}, at)) == 0 {
		m.now = nil
	}
}

// newSite returns the next site.
func (m *maker) newSite() int {
	m.site++
	return m.site
}

// block adds statements, with blocks one in the other.
func (m *maker) block(deep int) {
	for n := 1 + m.Intn(8); n > 0 && m.left > 0 && m.now != nil; n-- {
		m.left--
		switch k := m.Intn(20); {
		case k < 2 && deep > 0:
			m.branch(deep)
		case k < 4 && deep > 0:
			m.cases(deep)
		case k < 7 && deep > 0 && len(m.now.pools) < 4:
			i := api.Ins{Op: api.OAll, Site: m.newSite()}
			m.add(i)
			for range m.Intn(5) {
				m.try(one(m.Rand, uint8(api.OSpawn), api.OSpawn, api.OEach))
			}
			m.block(deep - 1)
			if m.now != nil {
				m.add(api.Ins{Op: api.ODone, Site: i.Site})
			}
		case k == 7 && m.Intn(4) == 0:
			m.try(api.OFail)
			if m.now == nil && m.Intn(2) == 0 {
				m.junk()
			}
		default:
			m.try(one(m.Rand, uint8(api.OInt), api.OInt, api.OInt, api.OArith, api.OOn, api.OName, api.OName, api.OPoint, api.OPoint, api.OPoint, api.OSet, api.OSet, api.OKey, api.OKey, api.OPair, api.OJoin, api.ONew, api.ONew, api.OPut, api.OPut, api.OSpawn, api.OSpawn, api.OSpawn, api.OEach, api.OEach, api.OFreeze, api.OFreeze, api.OSize, api.OHas, api.OValue, api.OValue, api.ONote))
		}
	}
}

// branch adds an OZero with one or two blocks.
func (m *maker) branch(deep int) {
	at := len(m.s.Ins)
	m.try(api.OZero)
	if len(m.s.Ins) == at {
		return
	}
	other := m.now.copied()
	m.block(deep - 1)
	if m.Intn(2) == 0 {
		m.s.Ins[at].N = len(m.s.Ins)
		m.meet(&other)
		return
	}
	jump := len(m.s.Ins)
	m.add(api.Ins{Op: api.OJump})
	m.s.Ins[at].N = len(m.s.Ins)
	one := m.now
	m.now = &other
	m.block(deep - 1)
	m.s.Ins[jump].N = len(m.s.Ins)
	m.meet(one)
}

// cases adds an OWhen with blocks.
func (m *maker) cases(deep int) {
	at := len(m.s.Ins)
	m.try(api.OWhen)
	if len(m.s.Ins) == at {
		return
	}
	before := m.now
	var end *state
	var jumps []int
	for n := range m.s.Ins[at].Cases {
		m.s.Ins[at].Cases[n].To = len(m.s.Ins)
		x := before.copied()
		m.now = &x
		m.block(deep - 1)
		if n < len(m.s.Ins[at].Cases)-1 {
			jumps = append(jumps, len(m.s.Ins))
			m.add(api.Ins{Op: api.OJump})
		}
		m.meet(end)
		end = m.now
	}
	for _, n := range jumps {
		m.s.Ins[n].N = len(m.s.Ins)
	}
}

// meet says that another way comes to the next place, if it does.
func (m *maker) meet(x *state) {
	switch {
	case x == nil:
	case m.now == nil:
		m.now = x
	default:
		y, _ := met([]state{*m.now, *x})
		m.now = &y
	}
}

// junk adds instructions that are not reached.
func (m *maker) junk() {
	r := m.Intn(m.s.Regs)
	m.add(one(m.Rand, api.Ins{Op: api.ONote}, api.Ins{Op: api.OPut, A: r, B: r}, api.Ins{Op: api.OAll, Site: m.newSite()}, api.Ins{Op: api.OSpawn, Name: "main", Args: []int{r, r}, Site: m.newSite()}, api.Ins{Op: api.OFail, A: r}, api.Ins{Op: api.OHalt}))
}

// try adds an instruction of an operation, if one that has no error is found.
func (m *maker) try(op uint8) {
	for range 60 {
		i := m.some(op)
		if m.typed(*m.now, i) && m.grows(*m.now, m.s, i) {
			if slices.Contains(fieldsOf(op), "Site") {
				i.Site = m.newSite()
			}
			m.add(i)
			return
		}
	}
}

// reg returns a register; if it is of something that is held, mostly one that holds it.
func (m *maker) reg(holds func(r int) bool) int {
	var l []int
	for r := range m.s.Regs {
		if holds(r) {
			l = append(l, r)
		}
	}
	if len(l) == 0 || m.Intn(10) == 0 {
		return m.Intn(m.s.Regs)
	}
	return one(m.Rand, l...)
}

// some returns an instruction of an operation.
func (m *maker) some(op uint8) api.Ins {
	any := func(int) bool { return true }
	elem := func(shape int) func(r int) bool { return func(r int) bool { return m.now.isElem(r, shape) } }
	held := func(what string) func(r int) bool {
		return func(r int) bool { return len(m.now.regs[r]) > len(what) && m.now.regs[r][:len(what)] == what }
	}
	i := api.Ins{Op: op}
	if slices.Contains(fieldsOf(op), "A") {
		i.A = m.reg(any)
	}
	if slices.Contains(fieldsOf(op), "S") {
		i.S = one(m.Rand, shapesOf(op)...)
	}
	switch op {
	case api.OInt:
		i.N = m.Intn(4) - 1
	case api.OArith:
		i.Name = one(m.Rand, "add", "sub", "mul", "div", "neg", "eq", "ne", "lt", "le", "gt", "ge")
		i.B = m.reg(m.now.isInt)
		if i.Name != "neg" {
			i.C = m.reg(m.now.isInt)
		}
	case api.OName:
		i.N = 1 + m.Intn(3)
	case api.OPoint, api.OSet:
		i.B = m.reg(m.now.isInt)
	case api.OKey:
		i.B, i.C = m.reg(m.now.isInt), m.reg(elem(map[int]int{5: 1, 7: 3}[i.S]))
	case api.OPair:
		i.B, i.C = m.reg(elem(2)), m.reg(elem(4))
		switch m.Intn(3) {
		case 0:
			i.B = -1
		case 1:
			i.C = -1
		}
	case api.OJoin:
		i.B, i.C = m.reg(elem(i.S)), m.reg(elem(i.S))
	case api.ONew:
		i.B, i.S = m.Intn(5)/4, one(m.Rand, i.S, 0, 0, 1, 3, 5)
	case api.OPut:
		shape := m.Intn(8)
		i.A, i.B = m.reg(func(r int) bool { return m.now.isVariable(r, shape) }), m.reg(elem(shape))
	case api.OSpawn:
		m.call(&i, append(m.heads(), m.Uses...), 0)
	case api.OEach:
		i.A = m.reg(held("own s"))
		m.call(&i, m.heads(), 1)
	case api.OWhen:
		shape := one(m.Rand, 0, 1, 2, 3, 3, 3, 4, 4, 4, 5, 6, 7, 7)
		i.A = m.reg(func(r int) bool { return m.now.isVariable(r, shape) })
		for range 1 + m.Intn(3) {
			i.Cases = append(i.Cases, api.Case{Reg: m.reg(elem(shape))})
		}
	case api.OFreeze:
		i.B = m.reg(held("own s"))
	case api.OSize:
		i.B = m.reg(held("value s"))
	case api.OHas, api.OValue:
		i.B, i.C = m.reg(held("value s")), m.reg(m.now.isInt)
	case api.OZero, api.OFail:
		i.A = m.reg(m.now.isInt)
	}
	return i
}

// heads returns the names and the params of the segments.
func (m *maker) heads() []api.Sign {
	var out []api.Sign
	for _, s := range m.Segments {
		out = append(out, api.Sign{Name: s.Name, Params: s.Params})
	}
	return out
}

// call gives an instruction the name of one of some tasks, and arguments for all of its params but so many of the last ones.
func (m *maker) call(i *api.Ins, l []api.Sign, less int) {
	x := one(m.Rand, l...)
	i.Name = x.Name
	for _, kind := range x.Params[:max(0, len(x.Params)-less)] {
		i.Args = append(i.Args, m.reg(func(r int) bool { return m.now.fits(r, kind) }))
	}
}

// someModules returns some modules, of which all have no error.
func someModules(t *testing.T, seed int64, n int) []api.Code {
	t.Helper()
	r := rand.New(rand.NewSource(seed))
	var out []api.Code
	for range n {
		c := someModule(t, r)
		if e := code.Check(c); e != api.OK {
			t.Fatalf("Check: %v of\n%s", e, rawText(c))
		}
		out = append(out, c)
	}
	return out
}

// otherCode returns a module in which something of an instruction is another one, so that its form is still right, names are there, and sites differ.
func otherCode(r *rand.Rand, c api.Code) api.Code {
	for {
		if out := tryOther(r, c); !sameCode(out, c) {
			return out
		}
	}
}

// tryOther tries to change something of some instruction.
func tryOther(r *rand.Rand, c api.Code) api.Code {
	out := copyCode(c)
	s := &out.Segments[r.Intn(len(out.Segments))]
	at := r.Intn(len(s.Ins))
	i := &s.Ins[at]
	reg := func(n *int) {
		if *n >= 0 && s.Regs > 0 {
			*n = r.Intn(s.Regs)
		}
	}
	place := func(n *int) { *n = at + 1 + r.Intn(len(s.Ins)-at-1) }
	has := func(field string) bool { return slices.Contains(fieldsOf(i.Op), field) }
	switch k := r.Intn(8); {
	case k == 0 && has("A"):
		reg(&i.A)
	case k == 1 && has("B") && i.Op != api.ONew:
		reg(&i.B)
	case k == 1 && i.Op == api.ONew:
		i.B = 1 - i.B
	case k == 2 && has("C") && i.Name != "neg":
		reg(&i.C)
	case k == 3 && len(i.Args) > 0:
		reg(&i.Args[r.Intn(len(i.Args))])
	case k == 3 && len(i.Cases) > 0:
		reg(&i.Cases[r.Intn(len(i.Cases))].Reg)
	case k == 4 && (i.Op == api.OJump || i.Op == api.OZero):
		place(&i.N)
	case k == 4 && i.Op == api.OWhen:
		place(&i.Cases[r.Intn(len(i.Cases))].To)
	case k == 5 && has("S"):
		i.S = one(r, shapesOf(i.Op)...)
	case k == 5 && i.Op == api.OInt:
		i.N = r.Intn(4) - 1
	case k == 5 && i.Op == api.OSpawn:
		i.Name = one(r, out.Segments...).Name
	case k == 5 && i.Op == api.OWhen:
		n := r.Intn(len(i.Cases))
		i.Cases = slices.Delete(i.Cases, n, n+1)
		if len(i.Cases) == 0 {
			*i = api.Ins{Op: api.ONote}
		}
	case k == 6 && at < len(s.Ins)-1:
		*i = one(r, api.Ins{Op: api.ONote}, api.Ins{Op: api.ONote}, api.Ins{Op: api.OHalt}, api.Ins{Op: api.OJump, N: at + 1 + r.Intn(len(s.Ins)-at-1)}, api.Ins{Op: api.OZero, A: r.Intn(max(1, s.Regs)), N: at + 1 + r.Intn(len(s.Ins)-at-1)})
		if s.Regs == 0 && i.Op == api.OZero {
			*i = api.Ins{Op: api.ONote}
		}
	case k == 7 && at < len(s.Ins)-2 && movable(s.Ins[at]) && movable(s.Ins[at+1]):
		s.Ins[at], s.Ins[at+1] = s.Ins[at+1], s.Ins[at]
	}
	return out
}

// movable says whether an instruction can stand anywhere but at the end.
func movable(i api.Ins) bool {
	return i.Op != api.OJump && i.Op != api.OZero && i.Op != api.OWhen
}
