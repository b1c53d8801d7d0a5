package compile_test

import (
	"cmp"
	"math/rand"
	"slices"
	"testing"

	"dripstone/api"
	"dripstone/check"
	"dripstone/code"
	"dripstone/elem"
	"dripstone/tell"
)

// machine executes code in some order, instruction by instruction.
type machine struct {
	api.Code
	*rand.Rand
	lattices []api.Lattice
	vars     []api.VarState
	shapes   []int // of the variables
	jobs     []*job
	pools    []*jobPool
	outs     []*lookOut
	fails    []int
	steps    int
}

// variable is the number of a variable, as a register holds it.
type variable int

// job is a task.
type job struct {
	path  []api.Hop
	in    int // the pool in which it was spawned, or -1
	code  api.Segment
	at    int
	regs  []any
	open  []int // its pools that are open
	ended bool
}

// jobPool is a pool, in another one, or in -1.
type jobPool struct {
	in    int
	ended bool
}

// lookOut is what an OEach began, with the keys for which there were tasks.
type lookOut struct {
	by   *job
	ins  api.Ins
	v    variable
	args []any
	in   int
	had  []int
}

// broken is thrown when an execution has an error.
type broken struct{ e api.Errno }

// execute returns the outcome of code, in the order that some numbers tell.
func execute(t *testing.T, c api.Code, in []int, order *rand.Rand) (out api.Outcome, e api.Errno) {
	t.Helper()
	m := &machine{Code: c, Rand: order}
	for n := range c.Shapes {
		lattice, e := code.Lattice(c, n)
		if e != api.OK {
			t.Fatalf("Lattice: %v", e)
		}
		m.lattices = append(m.lattices, lattice)
	}
	defer func() {
		if x := recover(); x != nil {
			b, ok := x.(broken)
			if !ok {
				panic(x)
			}
			out, e = api.Outcome{}, b.e
		}
	}()
	var args []any
	for _, n := range in {
		args = append(args, n)
	}
	m.begin("main", nil, -1, args)
	for m.act() {
	}
	return m.outcome(), api.OK
}

// begin lets a task begin.
func (m *machine) begin(name string, path []api.Hop, in int, args []any) {
	if len(m.jobs) == api.MaxTasks {
		panic(broken{api.ErrLimit})
	}
	for _, s := range m.Segments {
		if s.Name == name {
			j := &job{path: path, in: in, code: s, regs: make([]any, s.Regs)}
			copy(j.regs, args)
			m.jobs = append(m.jobs, j)
		}
	}
}

// act does something that can be done, if there is something.
func (m *machine) act() bool {
	var can []func()
	for _, j := range m.jobs {
		if m.canGo(j) {
			can = append(can, func() { m.do(j) })
		}
	}
	for _, w := range m.outs {
		for _, key := range m.missing(w) {
			can = append(can, func() {
				w.had = append(w.had, key)
				m.begin(w.ins.Name, hopped(w.by.path, w.ins.Site, key), w.in, append(slices.Clone(w.args), key))
			})
		}
	}
	if len(can) == 0 {
		return false
	}
	can[m.Intn(len(can))]()
	return true
}

// hopped returns a path with a hop more.
func hopped(path []api.Hop, site, piece int) []api.Hop {
	return append(slices.Clone(path), api.Hop{Site: site, Piece: piece})
}

// missing returns the keys for which a look-out that is not over has to begin tasks.
func (m *machine) missing(w *lookOut) []int {
	if m.over(w.in) {
		return nil
	}
	return slices.DeleteFunc(slices.Clone(m.vars[w.v].E.Keys), func(key int) bool { return slices.Contains(w.had, key) })
}

// over says whether a pool has ended, or one in which it is.
func (m *machine) over(pool int) bool {
	for ; pool >= 0; pool = m.pools[pool].in {
		if m.pools[pool].ended {
			return true
		}
	}
	return false
}

// within says whether a pool is another one, or in it.
func (m *machine) within(pool, outer int) bool {
	for ; pool >= 0; pool = m.pools[pool].in {
		if pool == outer {
			return true
		}
	}
	return false
}

// innermost returns the pool in which a task spawns.
func (j *job) innermost() int {
	if len(j.open) > 0 {
		return j.open[len(j.open)-1]
	}
	return j.in
}

// canGo says whether a task can do its next instruction.
func (m *machine) canGo(j *job) bool {
	if j.ended {
		return false
	}
	switch i := j.code.Ins[j.at]; i.Op {
	case api.OWhen:
		return m.holding(j, i) >= 0
	case api.ODone:
		pool := j.innermost()
		return !slices.ContainsFunc(m.jobs, func(other *job) bool { return !other.ended && m.within(other.in, pool) }) &&
			!slices.ContainsFunc(m.outs, func(w *lookOut) bool { return m.within(w.in, pool) && len(m.missing(w)) > 0 })
	}
	return true
}

// holding returns the first case that holds, or -1.
func (m *machine) holding(j *job, i api.Ins) int {
	v := j.regs[i.A].(variable)
	return slices.IndexFunc(i.Cases, func(c api.Case) bool {
		is, _ := elem.Below(m.lattices[m.shapes[v]], j.regs[c.Reg].(api.Elem), m.vars[v].E)
		return is
	})
}

// step counts a step.
func (m *machine) step() {
	if m.steps == api.MaxSteps {
		panic(broken{api.ErrLimit})
	}
	m.steps++
}

// do does the next instruction of a task.
func (m *machine) do(j *job) {
	i := j.code.Ins[j.at]
	j.at++
	args := func() []any {
		var out []any
		for _, r := range i.Args {
			out = append(out, j.regs[r])
		}
		return out
	}
	switch i.Op {
	case api.ONote, api.ONew, api.OPut, api.OSpawn, api.OWhen, api.OEach, api.ODone, api.OFreeze, api.OFail:
		m.step()
	}
	switch i.Op {
	case api.ONew:
		if len(m.vars) == api.MaxVars {
			panic(broken{api.ErrLimit})
		}
		j.regs[i.A] = variable(len(m.vars))
		m.vars = append(m.vars, api.VarState{Path: j.path, Site: i.Site, Shape: m.Shapes[i.S]})
		m.shapes = append(m.shapes, i.S)
	case api.OPut:
		m.put(j.regs[i.A].(variable), j.regs[i.B].(api.Elem))
	case api.OSpawn:
		m.begin(i.Name, hopped(j.path, i.Site, 0), j.innermost(), args())
	case api.OWhen:
		j.at = i.Cases[m.holding(j, i)].To
	case api.OEach:
		m.outs = append(m.outs, &lookOut{by: j, ins: i, v: j.regs[i.A].(variable), args: args(), in: j.innermost()})
	case api.OAll:
		m.pools = append(m.pools, &jobPool{in: j.innermost()})
		j.open = append(j.open, len(m.pools)-1)
	case api.ODone:
		m.pools[j.innermost()].ended = true
		j.open = j.open[:len(j.open)-1]
	case api.OFreeze:
		j.regs[i.A] = m.vars[j.regs[i.B].(variable)].E
		// Nothing is held there any more.
		j.regs[i.B] = nil
	case api.OJump:
		j.at = i.N
	case api.OZero:
		if j.regs[i.A].(int) == 0 {
			j.at = i.N
		}
	case api.OFail:
		m.fail(j, j.regs[i.A].(int))
	case api.OHalt:
		j.ended = true
	case api.ONote:
	default:
		j.work(m, i)
	}
}

// fail lets a task fail.
func (m *machine) fail(j *job, n int) {
	m.fails = append(m.fails, n)
	j.ended = true
}

// put joins an element into a variable.
func (m *machine) put(v variable, x api.Elem) {
	lattice := m.lattices[m.shapes[v]]
	join, e := elem.Join(lattice, m.vars[v].E, x)
	if e != api.OK {
		panic(broken{e})
	}
	if wrong, _ := elem.IsWrong(lattice, join); wrong {
		panic(broken{api.ErrFail})
	}
	m.vars[v].E = join
}

// work does an instruction by which nothing is done but to a register.
func (j *job) work(m *machine, i api.Ins) {
	number := func(r int) int { return j.regs[r].(int) }
	element := func(r int) api.Elem {
		if r == -1 {
			return api.Elem{}
		}
		return j.regs[r].(api.Elem)
	}
	bits := map[bool]int{true: 1}
	switch i.Op {
	case api.OInt:
		j.regs[i.A] = i.N
	case api.OArith:
		b := number(i.B)
		c := 0
		if i.Name != "neg" {
			c = number(i.C)
		}
		n, fault := arithmetic(i.Name, b, c)
		if fault != 0 {
			m.fail(j, fault)
		}
		j.regs[i.A] = n
	case api.OOn:
		j.regs[i.A] = api.Elem{Kind: api.ElemOn}
	case api.OName:
		j.regs[i.A] = api.Elem{Kind: api.ElemName, N: i.N}
	case api.OPoint:
		j.regs[i.A] = api.Elem{Kind: api.ElemInt, N: number(i.B)}
	case api.OSet:
		j.regs[i.A] = api.Elem{Kind: api.ElemSet, Keys: []int{number(i.B)}}
	case api.OKey:
		j.regs[i.A] = api.Elem{Kind: api.ElemMap, Keys: []int{number(i.B)}, Kids: []api.Elem{element(i.C)}}
	case api.OPair:
		j.regs[i.A] = api.Elem{Kind: api.ElemPair, Kids: []api.Elem{element(i.B), element(i.C)}}
	case api.OJoin:
		join, _ := elem.Join(m.lattices[i.S], element(i.B), element(i.C))
		j.regs[i.A] = join
	case api.OSize:
		j.regs[i.A] = len(element(i.B).Keys)
	case api.OHas:
		j.regs[i.A] = bits[slices.Contains(element(i.B).Keys, number(i.C))]
	case api.OValue:
		n := element(i.B).N
		if element(i.B).Kind == api.ElemNone {
			n = number(i.C)
		}
		j.regs[i.A] = n
	}
}

// arithmetic returns the integer of an OArith, or the number with which the task fails.
func arithmetic(word string, b, c int) (n, fault int) {
	bits := map[bool]int{true: 1}
	switch word {
	case "eq":
		n = bits[b == c]
	case "ne":
		n = bits[b != c]
	case "lt":
		n = bits[b < c]
	case "le":
		n = bits[b <= c]
	case "gt":
		n = bits[b > c]
	case "ge":
		n = bits[b >= c]
	case "add":
		n = b + c
	case "sub":
		n = b - c
	case "mul":
		n = b * c
	case "neg":
		n = -b
	case "div":
		if c == 0 {
			return 0, -1
		}
		n = b / c
	}
	if max(n, -n) > api.MaxNumber {
		return 0, -2
	}
	return n, 0
}

// outcome returns what an execution has come to.
func (m *machine) outcome() api.Outcome {
	out := api.Outcome{Vars: m.vars, Fails: slices.Sorted(slices.Values(m.fails)), Tasks: len(m.jobs), Steps: m.steps}
	for _, j := range m.jobs {
		if !j.ended {
			out.Waits = append(out.Waits, api.Wait{Path: j.path, Site: j.code.Ins[j.at].Site})
		}
	}
	hops := func(a, b []api.Hop) int {
		return slices.CompareFunc(a, b, func(a, b api.Hop) int {
			return cmp.Or(cmp.Compare(a.Site, b.Site), cmp.Compare(a.Piece, b.Piece))
		})
	}
	slices.SortFunc(out.Vars, func(a, b api.VarState) int { return cmp.Or(hops(a.Path, b.Path), cmp.Compare(a.Site, b.Site)) })
	slices.SortFunc(out.Waits, func(a, b api.Wait) int { return hops(a.Path, b.Path) })
	return out
}

// inputs returns some inputs for main.
func inputs(u api.Tree, r *rand.Rand) []int {
	var out []int
	for _, x := range pieces(u)[0].kids {
		if x.is(api.TaskItem) && x.Text == "main" {
			for range x.kidsOf(api.ParamNode) {
				out = append(out, r.Intn(7)-2)
			}
		}
	}
	return out
}

// isProgram says whether a module is a program.
func isProgram(u api.Tree) bool {
	_, e := check.Program(u)
	return e == api.OK
}

// P4, P8.1: the code of a program comes to what the program means, in any order.
func TestExecuted(t *testing.T) {
	order := rand.New(rand.NewSource(85))
	right, wrong, tasks, fails, waits := 0, 0, 0, 0, 0
	for _, u := range testModules(t) {
		if !isProgram(u) {
			continue
		}
		c := mustCompile(t, u)
		for range 4 {
			in := inputs(u, order)
			want, e := tell.Run(u, in)
			got, f := execute(t, c, in, order)
			if (e == api.OK) != (f == api.OK) || !tell.Agree(got, want) {
				t.Fatalf("with %v: %v, %v, and not %v, %v of\n%s", in, got, f, want, e, mustPrint(t, u))
			}
			if e != api.OK {
				wrong++
				continue
			}
			right++
			tasks, fails, waits = tasks+want.Tasks, fails+len(want.Fails), waits+len(want.Waits)
		}
	}
	if right < 500 || wrong < 50 || tasks < 2000 || fails < 200 || waits < 200 {
		t.Errorf("only %d right, %d wrong, %d tasks, %d fails, %d waits", right, wrong, tasks, fails, waits)
	}
}
