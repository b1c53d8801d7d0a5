package code_test

import (
	"fmt"
	"math/rand"
	"slices"
	"strings"
	"testing"

	"dripstone/api"
	"dripstone/code"
	"dripstone/elem"
	"dripstone/order"
)

// exampleText is the module of the chapter's examples.
const exampleText = `shape set
segment main 4
  new r0 s0 own 0
  all 1
  spawn add 2 r0
  each r0 main.0 3 r0
  done 1
  freeze r1 r0 4
  size r2 r1
  note
  fail r2
segment add 2 s0
  int r1 7
  set r1 s0 r1
  put r0 r1
  halt
segment main.0 3 s0 int
  int r2 1
  arith r1 add r1 r2
  halt
`

// shapesText are a table, whose last element is wrong, and shapes of all kinds: set 0, max 1, flag 2, once 3, l 4, map(max) 5, pair(flag, l) 6, map(once) 7.
const shapesText = `lattice l { a: b, c; b: d; c: d; d! }
shape set
shape max
shape flag
shape once
shape l
shape map(max)
shape pair(flag, l)
shape map(once)
`

// wholeText has every operation, and what is not reached.
const wholeText = shapesText + `use far int s0 v1
segment main 12 int
  new r1 s6 own 0
  new r2 s1 shared 1
  int r3 5
  point r3 s1 r3
  put r2 r3
  key r3 s5 r0 r3
  new r4 s5 own 2
  put r4 r3
  on r5 s2
  name r6 s4 1
  pair r7 s6 r5 -
  pair r8 s6 - r6
  join r7 s6 r7 r8
  put r1 r7
  name r6 s4 2
  pair r9 s6 - r6
  when r1 3 r8>17 r9>20
  note
  jump 21
  halt
  jump 21
  new r10 s1 own 7
  freeze r10 r10 8
  new r11 s0 shared 12
  all 9
  spawn far 10 r0 r11 r10
  each r4 k 11 r2 r0
  done 9
  freeze r4 r4 4
  size r5 r4
  has r6 r4 r0
  arith r6 add r5 r6
  new r7 s1 own 5
  freeze r7 r7 6
  value r8 r7 r6
  zero r8 37
  fail r0
  arith r8 neg r8
  set r8 s0 r8
  halt
segment k 4 s1 int int
  int r3 -1000000000
  halt
`

// segmentText returns the text of a segment with a head and instructions.
func segmentText(head string, l ...string) string {
	out := "segment " + head + "\n"
	for _, s := range l {
		out += "  " + s + "\n"
	}
	return out
}

// mustParse returns the module with a text.
func mustParse(t *testing.T, s string) api.Code {
	t.Helper()
	c, e := code.Parse(s)
	if e != api.OK {
		t.Fatalf("Parse: %v of\n%s", e, s)
	}
	return c
}

// mustText returns the text of a module.
func mustText(t *testing.T, c api.Code) string {
	t.Helper()
	s, e := code.Text(c)
	if e != api.OK {
		t.Fatalf("Text: %v of %v", e, c)
	}
	return s
}

// mustSight returns what is known before an instruction.
func mustSight(t *testing.T, c api.Code, segment, at int) api.Sight {
	t.Helper()
	x, e := code.Sight(c, segment, at)
	if e != api.OK {
		t.Fatalf("Sight of %d, %d: %v of\n%s", segment, at, e, rawText(c))
	}
	return x
}

// rawText returns the text of any code, right or not, for messages, and to be read again by rawCode.
func rawText(c api.Code) string {
	var out strings.Builder
	for _, x := range c.Tables {
		fmt.Fprintln(&out, tableText(x))
	}
	for _, s := range c.Shapes {
		fmt.Fprintln(&out, "shape", shapeText(s))
	}
	for _, u := range c.Uses {
		fmt.Fprintln(&out, strings.Join(append([]string{"use", u.Name}, rawKinds(u.Params)...), " "))
	}
	for _, s := range c.Segments {
		fmt.Fprintln(&out, strings.Join(append([]string{"segment", s.Name, fmt.Sprint(s.Regs)}, rawKinds(s.Params)...), " "))
		for _, i := range s.Ins {
			fmt.Fprintln(&out, "  "+strings.Join(rawIns(i), " "))
		}
	}
	return out.String()
}

// tableText and shapeText return texts of tables and shapes.
func tableText(x api.Table) string {
	s, _ := order.Text(x)
	return s
}

func shapeText(x api.Shape) string {
	s, _ := order.ShapeText(x)
	return s
}

// rawKinds returns the texts of kinds.
func rawKinds(l []int) []string {
	var out []string
	for _, n := range l {
		switch {
		case n == -1:
			out = append(out, "int")
		case n < -1:
			out = append(out, fmt.Sprintf("v%d", -2-n))
		default:
			out = append(out, fmt.Sprintf("s%d", n))
		}
	}
	return out
}

// rawIns returns the words of an instruction, as the chapter's table says.
func rawIns(i api.Ins) []string {
	reg := func(n int) string { return fmt.Sprintf("r%d", n) }
	some := func(n int) string {
		if n == -1 {
			return "-"
		}
		return reg(n)
	}
	a, b, c, s, n, site := reg(i.A), reg(i.B), reg(i.C), fmt.Sprintf("s%d", i.S), fmt.Sprint(i.N), fmt.Sprint(i.Site)
	var args, cases []string
	for _, r := range i.Args {
		args = append(args, reg(r))
	}
	for _, x := range i.Cases {
		cases = append(cases, fmt.Sprintf("r%d>%d", x.Reg, x.To))
	}
	switch i.Op {
	case api.OInt:
		return []string{"int", a, n}
	case api.OArith:
		if i.Name == "neg" {
			return []string{"arith", a, i.Name, b}
		}
		return []string{"arith", a, i.Name, b, c}
	case api.OOn:
		return []string{"on", a, s}
	case api.OName:
		return []string{"name", a, s, n}
	case api.OPoint:
		return []string{"point", a, s, b}
	case api.OSet:
		return []string{"set", a, s, b}
	case api.OKey:
		return []string{"key", a, s, b, c}
	case api.OPair:
		return []string{"pair", a, s, some(i.B), some(i.C)}
	case api.OJoin:
		return []string{"join", a, s, b, c}
	case api.ONew:
		return []string{"new", a, s, []string{"own", "shared"}[i.B&1], site}
	case api.OPut:
		return []string{"put", a, b}
	case api.OSpawn:
		return append([]string{"spawn", i.Name, site}, args...)
	case api.OWhen:
		return append([]string{"when", a, site}, cases...)
	case api.OEach:
		return append([]string{"each", a, i.Name, site}, args...)
	case api.OAll:
		return []string{"all", site}
	case api.ODone:
		return []string{"done", site}
	case api.OFreeze:
		return []string{"freeze", a, b, site}
	case api.OSize:
		return []string{"size", a, b}
	case api.OHas:
		return []string{"has", a, b, c}
	case api.OValue:
		return []string{"value", a, b, c}
	case api.OJump:
		return []string{"jump", n}
	case api.OZero:
		return []string{"zero", a, n}
	case api.ONote:
		return []string{"note"}
	case api.OFail:
		return []string{"fail", a}
	case api.OHalt:
		return []string{"halt"}
	}
	return []string{fmt.Sprint(i)}
}

// copyCode returns code that shares no memory with another one.
func copyCode(c api.Code) api.Code {
	var out api.Code
	for _, x := range c.Tables {
		y := api.Table{Name: x.Name, Elems: slices.Clone(x.Elems), Wrong: slices.Clone(x.Wrong)}
		for _, above := range x.Above {
			y.Above = append(y.Above, slices.Clone(above))
		}
		out.Tables = append(out.Tables, y)
	}
	for _, s := range c.Shapes {
		out.Shapes = append(out.Shapes, copyShape(s))
	}
	for _, u := range c.Uses {
		out.Uses = append(out.Uses, api.Sign{Name: u.Name, Params: slices.Clone(u.Params)})
	}
	for _, s := range c.Segments {
		out.Segments = append(out.Segments, api.Segment{Name: s.Name, Params: slices.Clone(s.Params), Regs: s.Regs, Ins: copyIns(s.Ins)})
	}
	return out
}

// copyShape returns a shape that shares no memory with another one.
func copyShape(s api.Shape) api.Shape {
	out := api.Shape{Kind: s.Kind, Name: s.Name}
	for _, kid := range s.Kids {
		out.Kids = append(out.Kids, copyShape(kid))
	}
	return out
}

// copyIns returns instructions that share no memory with others.
func copyIns(l []api.Ins) []api.Ins {
	out := slices.Clone(l)
	for i := range out {
		out[i].Args, out[i].Cases = slices.Clone(out[i].Args), slices.Clone(out[i].Cases)
	}
	return out
}

// changed returns the module with a text, and a change.
func changed(t *testing.T, s string, change func(c *api.Code)) api.Code {
	t.Helper()
	c := mustParse(t, s)
	change(&c)
	return c
}

// sameCode says whether two modules are the same; nil and empty lists are.
func sameCode(a, b api.Code) bool {
	return slices.EqualFunc(a.Tables, b.Tables, sameTable) && slices.EqualFunc(a.Shapes, b.Shapes, sameShape) &&
		slices.EqualFunc(a.Uses, b.Uses, func(x, y api.Sign) bool { return x.Name == y.Name && slices.Equal(x.Params, y.Params) }) &&
		slices.EqualFunc(a.Segments, b.Segments, sameSegment)
}

func sameTable(a, b api.Table) bool {
	return a.Name == b.Name && slices.Equal(a.Elems, b.Elems) && slices.EqualFunc(a.Above, b.Above, slices.Equal) && slices.Equal(a.Wrong, b.Wrong)
}

func sameShape(a, b api.Shape) bool {
	return a.Kind == b.Kind && a.Name == b.Name && slices.EqualFunc(a.Kids, b.Kids, sameShape)
}

func sameSegment(a, b api.Segment) bool {
	return a.Name == b.Name && a.Regs == b.Regs && slices.Equal(a.Params, b.Params) && slices.EqualFunc(a.Ins, b.Ins, sameIns)
}

func sameIns(a, b api.Ins) bool {
	return a.Op == b.Op && a.A == b.A && a.B == b.B && a.C == b.C && a.N == b.N && a.S == b.S && a.Site == b.Site && a.Name == b.Name && slices.Equal(a.Args, b.Args) && slices.Equal(a.Cases, b.Cases)
}

// heldText returns what a register of a module holds, as a text: of all fields that are not as they must be there is something in it.
func heldText(c api.Code, h api.Held) string {
	out := ""
	rest := h
	rest.Kind, rest.E = 0, api.Elem{}
	switch h.Kind {
	case api.HeldNone:
	case api.HeldInt:
		out = "int"
		if h.Known {
			out += fmt.Sprintf(" %d", h.N)
		}
		rest.Known, rest.N = false, 0
	case api.HeldOwn:
		out = fmt.Sprintf("own s%d of %d", h.S, h.At)
		rest.S, rest.At = 0, 0
	case api.HeldShared:
		out = fmt.Sprintf("shared s%d", h.S)
		rest.S = 0
	case api.HeldElem:
		out = fmt.Sprintf("elem s%d", h.S)
		if h.Known {
			s, e := elem.Text(api.Lattice{Tables: c.Tables, Shape: c.Shapes[h.S]}, h.E)
			if e != api.OK {
				s = fmt.Sprint(h.E)
			}
			out += " " + s
		}
		rest.S, rest.Known = 0, false
	case api.HeldValue:
		out = fmt.Sprintf("value s%d", h.S)
		rest.S = 0
	default:
		out = fmt.Sprintf("kind %d", h.Kind)
	}
	odd := h.Kind != api.HeldElem || !h.Known
	if rest.S != 0 || rest.At != 0 || rest.Known || rest.N != 0 || odd && (h.E.Kind != 0 || h.E.N != 0 || len(h.E.Keys)+len(h.E.Kids) > 0) {
		out += fmt.Sprintf(" and also %v %v", rest, h.E)
	}
	return out
}

// sightText returns what is known before an instruction, as a text: the registers that hold something, the pools, and what was passed on in them.
func sightText(c api.Code, x api.Sight) string {
	var out []string
	if !x.Reached {
		out = append(out, "not reached")
	}
	for r, h := range x.Regs {
		if s := heldText(c, h); s != "" {
			out = append(out, fmt.Sprintf("r%d %s", r, s))
		}
	}
	for _, p := range x.Pools {
		out = append(out, fmt.Sprintf("pool %d", p))
	}
	for _, p := range x.Passed {
		out = append(out, fmt.Sprintf("passed %d in %d", p.New, p.All))
	}
	return strings.Join(out, "; ")
}

// answer is what a function answers: its error, and whether all other results are zero values.
type answer struct {
	name string
	e    api.Errno
	zero bool
}

// answers returns what all functions with a module answer, asked for some segment, and some instruction, shape and name.
func answers(c api.Code, segment, at, shape int, name string) []answer {
	n, e1 := code.Find(c, name)
	x, e2 := code.Sight(c, segment, at)
	sites, e3 := code.Sites(c, segment)
	calls, e4 := code.Calls(c, segment)
	reach, e5 := code.Reach(c, segment)
	least, most, e6 := code.Steps(c, segment)
	a, b, d, e7 := code.Counts(c)
	l, e8 := code.Lattice(c, shape)
	s, e9 := code.Text(c)
	return []answer{
		{"Check", code.Check(c), true},
		{"Find", e1, n == 0},
		{"Sight", e2, !x.Reached && len(x.Regs)+len(x.Pools)+len(x.Passed) == 0},
		{"Sites", e3, len(sites) == 0},
		{"Calls", e4, len(calls) == 0},
		{"Reach", e5, len(reach) == 0},
		{"Steps", e6, least == 0 && most == 0},
		{"Counts", e7, a == 0 && b == 0 && d == 0},
		{"Lattice", e8, len(l.Tables)+len(l.Shape.Kids) == 0 && l.Shape.Kind == 0 && l.Shape.Name == ""},
		{"Text", e9, s == ""},
	}
}

// mustFail tells if some function has not the error of a module, whatever else it is asked for, or something beside it; or if the module without an error has one.
func mustFail(t *testing.T, what string, c api.Code, want api.Errno) {
	t.Helper()
	mustCheck(t, what, c, want)
	if want == api.OK {
		return
	}
	for _, n := range []int{0, -1, 99} {
		for _, x := range answers(c, n, n, n, "main") {
			if x.e != want || !x.zero {
				t.Errorf("%s: %s: %v, and not %v; zero values: %v", what, x.name, x.e, want, x.zero)
			}
		}
	}
}

// mustCheck tells if Check does not return an error.
func mustCheck(t *testing.T, what string, c api.Code, want api.Errno) {
	t.Helper()
	if e := code.Check(c); e != want {
		t.Errorf("%s: Check: %v, and not %v", what, e, want)
	}
}

// one returns one of some values.
func one[T any](r *rand.Rand, l ...T) T {
	return l[r.Intn(len(l))]
}
