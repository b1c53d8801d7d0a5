package code_test

import (
	"fmt"
	"slices"
	"strings"
	"testing"

	"dripstone/api"
	"dripstone/code"
	"dripstone/elem"
)

// This file reads the chapter a second time, in the plainest way: what registers hold are texts, what is known before a place is asked of all places before it, and what happens on a way is found out by going it.

// state is what is known somewhere: of each register a text (empty: nothing), the pools that are open, and what was passed on.
type state struct {
	regs   []string
	pools  []int
	passed map[api.Pass]bool
}

// plain is code whose form is right, and whose names are there.
type plain struct {
	api.Code
}

// behind returns the places to which an instruction can go.
func behind(s api.Segment, at int) []int {
	switch i := s.Ins[at]; i.Op {
	case api.OWhen:
		var out []int
		for _, c := range i.Cases {
			out = append(out, c.To)
		}
		return out
	case api.OJump:
		return []int{i.N}
	case api.OZero:
		return []int{at + 1, i.N}
	case api.OFail, api.OHalt:
		return nil
	}
	return []int{at + 1}
}

// first returns what is known before the place 0.
func (p plain) first(s api.Segment) state {
	out := state{regs: make([]string, s.Regs), passed: map[api.Pass]bool{}}
	for i, kind := range s.Params {
		switch {
		case kind == -1:
			out.regs[i] = "int"
		case kind >= 0:
			out.regs[i] = fmt.Sprintf("shared s%d", kind)
		default:
			out.regs[i] = fmt.Sprintf("value s%d", -2-kind)
		}
	}
	return out
}

// copied returns a state that shares no memory with another one.
func (x state) copied() state {
	out := state{regs: slices.Clone(x.regs), pools: slices.Clone(x.pools), passed: map[api.Pass]bool{}}
	for p := range x.passed {
		out.passed[p] = true
	}
	return out
}

// text returns a state as sightText writes it.
func (x state) text() string {
	var out []string
	for r, s := range x.regs {
		if s != "" {
			out = append(out, fmt.Sprintf("r%d %s", r, s))
		}
	}
	for _, p := range x.pools {
		out = append(out, fmt.Sprintf("pool %d", p))
	}
	var passed []api.Pass
	for p := range x.passed {
		passed = append(passed, p)
	}
	slices.SortFunc(passed, func(a, b api.Pass) int { return (a.New-b.New)*1000000 + a.All - b.All })
	for _, p := range passed {
		out = append(out, fmt.Sprintf("passed %d in %d", p.New, p.All))
	}
	return strings.Join(out, "; ")
}

// isInt, isElem and so on ask what a register holds.
func (x state) isInt(r int) bool { return x.regs[r] == "int" || strings.HasPrefix(x.regs[r], "int ") }

func (x state) isElem(r, shape int) bool {
	s := fmt.Sprintf("elem s%d", shape)
	return x.regs[r] == s || strings.HasPrefix(x.regs[r], s+" ")
}

func (x state) isValue(r, shape int) bool { return x.regs[r] == fmt.Sprintf("value s%d", shape) }

func (x state) isOwn(r, shape int) bool {
	return strings.HasPrefix(x.regs[r], fmt.Sprintf("own s%d of ", shape))
}

func (x state) isVariable(r, shape int) bool {
	return x.isOwn(r, shape) || x.regs[r] == fmt.Sprintf("shared s%d", shape)
}

// made returns by which instruction an own variable was made that a register holds, or -1.
func (x state) made(r int) int {
	var s, n int
	if _, e := fmt.Sscanf(x.regs[r], "own s%d of %d", &s, &n); e != nil {
		return -1
	}
	return n
}

// known returns what is known of a register, as a text, and whether something is.
func (x state) known(r int) (string, bool) {
	s := x.regs[r]
	if n, ok := strings.CutPrefix(s, "int "); ok {
		return n, true
	}
	if strings.HasPrefix(s, "elem ") && strings.Count(s, " ") > 1 {
		return strings.SplitN(s, " ", 3)[2], true
	}
	return "", false
}

// some returns the shapes of some kinds for which something holds.
func (p plain) some(holds func(shape int) bool, kinds ...uint8) bool {
	for n, s := range p.Shapes {
		if (len(kinds) == 0 || slices.Contains(kinds, s.Kind)) && holds(n) {
			return true
		}
	}
	return false
}

// fits says whether a register holds what a param of a kind needs.
func (x state) fits(r, kind int) bool {
	switch {
	case kind == -1:
		return x.isInt(r)
	case kind >= 0:
		return x.isVariable(r, kind)
	}
	return x.isValue(r, -2-kind)
}

// signs returns the kinds of the params of what has a name.
func (p plain) signs(name string) []int {
	for _, s := range p.Segments {
		if s.Name == name {
			return s.Params
		}
	}
	for _, u := range p.Uses {
		if u.Name == name {
			return u.Params
		}
	}
	return nil
}

// typed says whether what an instruction needs is in registers.
func (p plain) typed(x state, i api.Ins) bool {
	kid := func(r, n int) bool {
		return p.some(func(shape int) bool { return sameShape(p.Shapes[shape], p.Shapes[i.S].Kids[n]) && x.isElem(r, shape) })
	}
	args := func(kinds []int) bool {
		if len(kinds) != len(i.Args) {
			return false
		}
		for n, r := range i.Args {
			if !x.fits(r, kinds[n]) {
				return false
			}
		}
		return true
	}
	value := func(kinds ...uint8) bool {
		return p.some(func(shape int) bool { return x.isValue(i.B, shape) }, kinds...)
	}
	switch i.Op {
	case api.OArith:
		return x.isInt(i.B) && (i.Name == "neg" || x.isInt(i.C))
	case api.OPoint, api.OSet:
		return x.isInt(i.B)
	case api.OKey:
		return x.isInt(i.B) && kid(i.C, 0)
	case api.OPair:
		return (i.B == -1 || kid(i.B, 0)) && (i.C == -1 || kid(i.C, 1))
	case api.OJoin:
		return x.isElem(i.B, i.S) && x.isElem(i.C, i.S)
	case api.OPut:
		return p.some(func(shape int) bool { return x.isVariable(i.A, shape) && x.isElem(i.B, shape) })
	case api.OSpawn:
		return args(p.signs(i.Name))
	case api.OWhen:
		return p.some(func(shape int) bool { return x.isVariable(i.A, shape) && p.clear(x, i.Cases, shape) })
	case api.OEach:
		kinds := p.signs(i.Name)
		n := len(kinds) - 1
		return p.some(func(shape int) bool { return x.isOwn(i.A, shape) }, api.ShapeSet, api.ShapeMap) && n >= 0 && kinds[n] == -1 && args(kinds[:n])
	case api.OFreeze:
		return p.some(func(shape int) bool { return x.isOwn(i.B, shape) })
	case api.OSize:
		return value(api.ShapeSet, api.ShapeMap)
	case api.OHas:
		return value(api.ShapeSet, api.ShapeMap) && x.isInt(i.C)
	case api.OValue:
		return value(api.ShapeMax, api.ShapeOnce) && x.isInt(i.C)
	case api.OZero, api.OFail:
		return x.isInt(i.A)
	}
	return true
}

// clear says whether all cases have elements of a shape; and, if they are several, known ones every two of which exclude each other.
func (p plain) clear(x state, cases []api.Case, shape int) bool {
	lattice := api.Lattice{Tables: p.Tables, Shape: p.Shapes[shape]}
	var l []api.Elem
	for _, c := range cases {
		if !x.isElem(c.Reg, shape) {
			return false
		}
		s, ok := x.known(c.Reg)
		if !ok && len(cases) > 1 {
			return false
		}
		e, _ := elem.Parse(lattice, s)
		l = append(l, e)
	}
	for n := range l {
		for m := range n {
			if excludes, e := elem.Excludes(lattice, l[n], l[m]); !excludes || e != api.OK {
				return false
			}
		}
	}
	return true
}

// grows says whether an instruction keeps the rules of growth.
func (p plain) grows(x state, s api.Segment, i api.Ins) bool {
	last := len(x.pools) - 1
	switch i.Op {
	case api.OAll:
		return last+2 <= api.MaxPools
	case api.ODone:
		return last >= 0 && s.Ins[x.pools[last]].Site == i.Site
	case api.OHalt:
		return last < 0
	case api.OSpawn:
		return last >= 0 || !slices.ContainsFunc(i.Args, func(r int) bool { return x.made(r) >= 0 })
	case api.OEach:
		if last < 0 {
			return false
		}
		for pass := range x.passed {
			if pass.New == x.made(i.A) && pass.All != x.pools[last] {
				return false
			}
		}
	case api.OFreeze:
		for pass := range x.passed {
			if pass.New == x.made(i.B) {
				return false
			}
		}
	}
	return true
}

// do returns what is known behind an instruction that has no error, which stands at a place.
func (p plain) do(before state, at int, i api.Ins) state {
	x := before.copied()
	element := func(e api.Elem, known bool) {
		x.regs[i.A] = fmt.Sprintf("elem s%d", i.S)
		if s, err := elem.Text(api.Lattice{Tables: p.Tables, Shape: p.Shapes[i.S]}, e); known && err == api.OK {
			x.regs[i.A] += " " + s
		}
	}
	number := func(r int) (int, bool) {
		s, ok := before.known(r)
		n := 0
		fmt.Sscan(s, &n)
		return n, ok
	}
	of := func(r int, shape api.Shape) (api.Elem, bool) {
		if r == -1 {
			return api.Elem{}, true
		}
		s, ok := before.known(r)
		e, _ := elem.Parse(api.Lattice{Tables: p.Tables, Shape: shape}, s)
		return e, ok
	}
	pass := func(r int) {
		if n := before.made(r); n >= 0 {
			x.passed[api.Pass{New: n, All: x.pools[len(x.pools)-1]}] = true
		}
	}
	switch i.Op {
	case api.OInt:
		x.regs[i.A] = fmt.Sprintf("int %d", i.N)
	case api.OArith, api.OSize, api.OHas, api.OValue:
		x.regs[i.A] = "int"
	case api.OOn:
		element(api.Elem{Kind: api.ElemOn}, true)
	case api.OName:
		element(api.Elem{Kind: api.ElemName, N: i.N}, true)
	case api.OPoint:
		n, ok := number(i.B)
		element(api.Elem{Kind: api.ElemInt, N: n}, ok)
	case api.OSet:
		n, ok := number(i.B)
		element(api.Elem{Kind: api.ElemSet, Keys: []int{n}}, ok)
	case api.OKey:
		n, ok := number(i.B)
		kid, too := of(i.C, p.Shapes[i.S].Kids[0])
		element(api.Elem{Kind: api.ElemMap, Keys: []int{n}, Kids: []api.Elem{kid}}, ok && too)
	case api.OPair:
		a, ok := of(i.B, p.Shapes[i.S].Kids[0])
		b, too := of(i.C, p.Shapes[i.S].Kids[1])
		element(api.Elem{Kind: api.ElemPair, Kids: []api.Elem{a, b}}, ok && too)
	case api.OJoin:
		a, ok := of(i.B, p.Shapes[i.S])
		b, too := of(i.C, p.Shapes[i.S])
		e, err := elem.Join(api.Lattice{Tables: p.Tables, Shape: p.Shapes[i.S]}, a, b)
		element(e, ok && too && err == api.OK)
	case api.ONew:
		x.regs[i.A] = fmt.Sprintf("own s%d of %d", i.S, at)
		if i.B == 1 {
			x.regs[i.A] = fmt.Sprintf("shared s%d", i.S)
		}
	case api.OSpawn, api.OEach:
		for _, r := range i.Args {
			pass(r)
		}
		if i.Op == api.OEach {
			pass(i.A)
		}
	case api.OAll:
		x.pools = append(x.pools, at)
	case api.ODone:
		for p := range x.passed {
			if p.All == x.pools[len(x.pools)-1] {
				delete(x.passed, p)
			}
		}
		x.pools = x.pools[:len(x.pools)-1]
	case api.OFreeze:
		shape := 0
		fmt.Sscanf(x.regs[i.B], "own s%d", &shape)
		x.regs[i.B] = ""
		x.regs[i.A] = fmt.Sprintf("value s%d", shape)
	}
	return x
}

// met returns what is known where several ways come together, and whether the same pools are open on all of them.
func met(l []state) (state, bool) {
	out := l[0].copied()
	for _, x := range l[1:] {
		if !slices.Equal(out.pools, x.pools) {
			return out, false
		}
		for r := range out.regs {
			out.regs[r] = both(out.regs[r], x.regs[r])
		}
		for p := range x.passed {
			out.passed[p] = true
		}
	}
	return out, true
}

// both returns what a register holds that holds one thing on one way, and one on another.
func both(a, b string) string {
	bare := func(s string) string {
		w := strings.Split(s, " ")
		if w[0] == "int" {
			return "int"
		}
		if w[0] == "elem" {
			return "elem " + w[1]
		}
		return s
	}
	switch {
	case a == b:
		return a
	case bare(a) == bare(b):
		return bare(a)
	}
	return ""
}

// before returns what is known before each place of a segment (nil: it is not reached), up to the one at which there is an error.
func (p plain) before(s api.Segment) ([]*state, api.Errno) {
	out := make([]*state, len(s.Ins))
	after := make([]*state, len(s.Ins))
	for at, i := range s.Ins {
		var l []state
		if at == 0 {
			l = append(l, p.first(s))
		}
		for from := range at {
			for _, to := range behind(s, from) {
				if to == at && after[from] != nil {
					l = append(l, *after[from])
				}
			}
		}
		if len(l) == 0 {
			continue
		}
		x, ok := met(l)
		if !ok {
			return nil, api.ErrState
		}
		if !p.typed(x, i) {
			return nil, api.ErrType
		}
		if !p.grows(x, s, i) {
			return nil, api.ErrState
		}
		y := p.do(x, at, i)
		out[at], after[at] = &x, &y
	}
	return out, api.OK
}

// error returns the error of types and growth of a module that has no other one.
func (p plain) error() api.Errno {
	for _, s := range p.Segments {
		if _, e := p.before(s); e != api.OK {
			return e
		}
	}
	return api.OK
}

// compareSights compares what is known before all instructions of a module with the plain reading.
func compareSights(t *testing.T, c api.Code) {
	t.Helper()
	p := plain{c}
	for n, s := range c.Segments {
		l, e := p.before(s)
		if e != api.OK {
			t.Fatalf("the plain reading: %v of the segment %d of\n%s", e, n, rawText(c))
		}
		for at, x := range l {
			got := sightText(c, mustSight(t, c, n, at))
			want := "not reached"
			if x != nil {
				want = x.text()
			}
			if got != want {
				t.Fatalf("Sight of %d, %d: %s, and not %s of\n%s", n, at, got, want, rawText(c))
			}
		}
	}
}

// compareGraph compares Sites, Calls, Reach, Counts and Find with a plain reading.
func compareGraph(t *testing.T, c api.Code) {
	t.Helper()
	names := map[string]int{}
	instructions, count := 0, 0
	direct := make([]map[int]bool, len(c.Segments))
	for n, s := range c.Segments {
		names[s.Name] = n
		instructions += len(s.Ins)
	}
	for n, s := range c.Segments {
		direct[n] = map[int]bool{}
		var sites []int
		for _, i := range s.Ins {
			switch i.Op {
			case api.OSpawn, api.OEach:
				if to, ok := names[i.Name]; ok {
					direct[n][to] = true
				}
				fallthrough
			case api.ONew, api.OWhen, api.OAll, api.OFreeze:
				sites = append(sites, i.Site)
			}
		}
		count += len(sites)
		slices.Sort(sites)
		if l := mustList(t, c, n, code.Sites); !slices.Equal(l, sites) {
			t.Fatalf("Sites of %d: %v of\n%s", n, l, rawText(c))
		}
		if at, e := code.Find(c, s.Name); at != n || e != api.OK {
			t.Fatalf("Find of %s: %d, %v", s.Name, at, e)
		}
	}
	far := make([]map[int]bool, len(direct))
	for n := range direct {
		far[n] = map[int]bool{}
		for m := range direct[n] {
			far[n][m] = true
		}
	}
	for range direct {
		for n := range far {
			for m := range direct {
				if far[n][m] {
					for k := range direct[m] {
						far[n][k] = true
					}
				}
			}
		}
	}
	list := func(met map[int]bool) []int {
		var out []int
		for n := range c.Segments {
			if met[n] {
				out = append(out, n)
			}
		}
		return out
	}
	for n := range c.Segments {
		calls, reach := mustList(t, c, n, code.Calls), mustList(t, c, n, code.Reach)
		if !slices.Equal(calls, list(direct[n])) || !slices.Equal(reach, list(far[n])) {
			t.Fatalf("Calls of %d: %v; Reach: %v of\n%s", n, calls, reach, rawText(c))
		}
	}
	if a, b, d, e := code.Counts(c); a != len(c.Segments) || b != instructions || d != count || e != api.OK {
		t.Fatalf("Counts: %d, %d, %d, %v of\n%s", a, b, d, e, rawText(c))
	}
}

// ways returns the ways of a segment, each as its places; so many of them at most.
func ways(s api.Segment, most int) [][]int {
	var out [][]int
	var walk func(way []int)
	walk = func(way []int) {
		if len(out) >= most {
			return
		}
		next := behind(s, way[len(way)-1])
		if len(next) == 0 {
			out = append(out, slices.Clone(way))
		}
		for _, to := range next {
			walk(append(way, to))
		}
	}
	walk([]int{0})
	return out
}
