package code_test

import (
	"math/rand"
	"slices"
	"strings"
	"testing"

	"dripstone/api"
	"dripstone/code"
)

// testModules returns modules: those of the texts, and some that are made.
func testModules(t *testing.T, seed int64, n int) []api.Code {
	t.Helper()
	out := someModules(t, seed, n)
	for _, s := range []string{exampleText, wholeText, callsText} {
		out = append(out, mustParse(t, s))
	}
	return out
}

// says tells whether what a register holds on a way is what Sight says of it, if it says something.
func says(sight, way string) bool {
	switch {
	case sight == "" || sight == way:
		return true
	case sight == "int" || strings.HasPrefix(sight, "elem ") && strings.Count(sight, " ") == 1:
		return strings.HasPrefix(way, sight+" ")
	}
	return false
}

// onWays calls a function with each instruction of some ways of all segments of a module, what is known before it on this way alone, and how many steps were done.
func onWays(c api.Code, most int, call func(segment, at int, x state, steps int)) {
	p := plain{c}
	for n, s := range c.Segments {
		for _, way := range ways(s, most) {
			x, steps := p.first(s), 0
			for _, at := range way {
				call(n, at, x, steps)
				x = p.do(x, at, s.Ins[at])
				if step(s.Ins[at].Op) {
					steps++
				}
			}
			call(n, -1, x, steps)
		}
	}
}

// step says whether an instruction is a step.
func step(op uint8) bool {
	return slices.Contains([]uint8{api.ONote, api.ONew, api.OPut, api.OSpawn, api.OWhen, api.OEach, api.ODone, api.OFreeze, api.OFail}, op)
}

// P7.7: what Sight says is so on each way.
func TestSightOnWays(t *testing.T) {
	something, less := 0, 0
	for _, c := range testModules(t, 77, 120) {
		sights := map[[2]int]api.Sight{}
		for n, s := range c.Segments {
			for at := range s.Ins {
				sights[[2]int{n, at}] = mustSight(t, c, n, at)
			}
		}
		onWays(c, 40, func(n, at int, x state, steps int) {
			if at < 0 {
				return
			}
			sight := sights[[2]int{n, at}]
			if !sight.Reached || !slices.Equal(sight.Pools, x.pools) {
				t.Fatalf("Sight of %d, %d: %s; on a way: %s of\n%s", n, at, sightText(c, sight), x.text(), rawText(c))
			}
			for r, h := range sight.Regs {
				s := heldText(c, h)
				if !says(s, x.regs[r]) {
					t.Fatalf("Sight of %d, %d: %s; on a way: %s of\n%s", n, at, sightText(c, sight), x.text(), rawText(c))
				}
				if s != "" {
					something++
				}
				if s != x.regs[r] {
					less++
				}
			}
			for p := range x.passed {
				if !slices.Contains(sight.Passed, p) {
					t.Fatalf("Sight of %d, %d: %s; on a way: %s of\n%s", n, at, sightText(c, sight), x.text(), rawText(c))
				}
			}
		})
	}
	if something < 10000 || less < 1000 {
		t.Errorf("Sight said %d times something, and %d times less than there was", something, less)
	}
}

// P7.8: there and back.
func TestThereAndBack(t *testing.T) {
	for _, c := range testModules(t, 78, 150) {
		s := mustText(t, c)
		if s != rawText(c) {
			t.Fatalf("Text: %s, and not\n%s", s, rawText(c))
		}
		if d := mustParse(t, s); !sameCode(c, d) {
			t.Fatalf("Parse: %s, and not\n%s", rawText(d), s)
		}
	}
}

// P7.4, P7.9: each instruction comes at most once, ways have at least the fewest and at most the most steps, and pools are closed.
func TestForward(t *testing.T) {
	different := 0
	for _, c := range testModules(t, 79, 150) {
		least, most := make([]int, len(c.Segments)), make([]int, len(c.Segments))
		for n, s := range c.Segments {
			least[n] = 1 << 30
			for _, way := range ways(s, 3000) {
				if !slices.IsSorted(way) || len(slices.Compact(slices.Clone(way))) != len(way) {
					t.Fatalf("a way of %d goes back: %v of\n%s", n, way, rawText(c))
				}
			}
		}
		onWays(c, 3000, func(n, at int, x state, steps int) {
			if at < 0 {
				least[n], most[n] = min(least[n], steps), max(most[n], steps)
				return
			}
			i := c.Segments[n].Ins[at]
			if i.Op == api.OHalt && len(x.pools) > 0 || i.Op == api.ODone && c.Segments[n].Ins[x.pools[len(x.pools)-1]].Site != i.Site {
				t.Fatalf("pools %v at %d, %d of\n%s", x.pools, n, at, rawText(c))
			}
		})
		for n, s := range c.Segments {
			a, b, e := code.Steps(c, n)
			all := len(ways(s, 3000)) < 3000
			if e != api.OK || a > least[n] || b < most[n] || all && (a != least[n] || b != most[n]) {
				t.Fatalf("Steps of %d: %d, %d, %v, and not %d, %d of\n%s", n, a, b, e, least[n], most[n], rawText(c))
			}
			if a != b {
				different++
			}
		}
	}
	if different < 100 {
		t.Errorf("only %d segments have ways of several lengths", different)
	}
}

// P7.10: what is frozen, or looked at, was not passed on in pools that are open.
func TestGrown(t *testing.T) {
	frozen, looked := 0, 0
	for _, c := range testModules(t, 710, 150) {
		onWays(c, 60, func(n, at int, x state, steps int) {
			if at < 0 {
				return
			}
			i := c.Segments[n].Ins[at]
			var reg int
			open := x.pools
			switch i.Op {
			case api.OFreeze:
				reg = i.B
				frozen++
			case api.OEach:
				reg = i.A
				open = open[:len(open)-1]
				looked++
			default:
				return
			}
			for p := range x.passed {
				if p.New == x.made(reg) && slices.Contains(open, p.All) {
					t.Fatalf("the variable of %d, %d was passed on in %d of\n%s", n, at, p.All, rawText(c))
				}
			}
			if x.made(reg) < 0 {
				t.Fatalf("the variable of %d, %d is not own of\n%s", n, at, rawText(c))
			}
		})
	}
	if frozen < 200 || looked < 200 {
		t.Errorf("only %d were frozen, and %d looked at", frozen, looked)
	}
}

// sameAbout says whether two modules answer the same of a segment that has the same number in both.
func sameAbout(t *testing.T, a, b api.Code, n, m int) bool {
	t.Helper()
	a1, b1, _ := code.Steps(a, n)
	a2, b2, _ := code.Steps(b, m)
	same := a1 == a2 && b1 == b2 && slices.Equal(mustList(t, a, n, code.Sites), mustList(t, b, m, code.Sites))
	for at := range a.Segments[n].Ins {
		same = same && sightText(a, mustSight(t, a, n, at)) == sightText(b, mustSight(t, b, m, at))
	}
	return same
}

// P7.11: segments and registers more; segments with less.
func TestAlone(t *testing.T) {
	for _, c := range testModules(t, 711, 30) {
		d := copyCode(c)
		d.Segments = append(d.Segments, api.Segment{Name: "fresh", Ins: []api.Ins{{Op: api.OHalt}}})
		mustCheck(t, "with a segment more", d, api.OK)
		first := copyCode(c)
		first.Segments = slices.Insert(first.Segments, 0, api.Segment{Name: "fresh.0", Params: []int{-1}, Regs: 3, Ins: []api.Ins{{Op: api.OHalt}}})
		mustCheck(t, "with a segment more before all others", first, api.OK)
		for n, s := range c.Segments {
			if !sameAbout(t, c, d, n, n) || !sameAbout(t, c, first, n, n+1) || !slices.Equal(mustList(t, c, n, code.Reach), mustList(t, d, n, code.Reach)) {
				t.Errorf("with a segment more another one is known of %d of\n%s", n, rawText(c))
			}
			wide := copyCode(c)
			wide.Segments[n].Regs++
			mustCheck(t, "with a register more", wide, api.OK)
			short := copyCode(c)
			short.Segments[n].Ins = []api.Ins{{Op: api.OHalt}}
			mustCheck(t, "with one OHalt", short, api.OK)
			for at := range s.Ins {
				x, y := mustSight(t, c, n, at), mustSight(t, wide, n, at)
				if sightText(c, x) != sightText(wide, y) || x.Reached && len(y.Regs) != len(x.Regs)+1 {
					t.Errorf("with a register more: %s, and not %s of\n%s", sightText(wide, y), sightText(c, x), rawText(c))
				}
			}
		}
	}
}

// P7.12: what goes back, and what is there twice.
func TestSpoilt(t *testing.T) {
	r := rand.New(rand.NewSource(712))
	for _, c := range testModules(t, 713, 60) {
		for n, s := range c.Segments {
			for at, i := range s.Ins {
				d := copyCode(c)
				to := r.Intn(at + 1)
				switch i.Op {
				case api.OJump, api.OZero:
					d.Segments[n].Ins[at].N = to
				case api.OWhen:
					d.Segments[n].Ins[at].Cases[r.Intn(len(i.Cases))].To = to
				default:
					if at == len(s.Ins)-1 {
						continue
					}
					d.Segments[n].Ins[at] = api.Ins{Op: api.OJump, N: to}
				}
				mustCheck(t, "with an instruction that goes back", d, api.ErrForm)
			}
			d := copyCode(c)
			d.Segments[n].Name = c.Segments[(n+1)%len(c.Segments)].Name
			if len(c.Segments) > 1 {
				mustCheck(t, "with a name twice", d, api.ErrTwice)
			}
			sites := mustList(t, c, n, code.Sites)
			if len(sites) < 2 {
				continue
			}
			d = copyCode(c)
			for at, i := range s.Ins {
				if i.Op != api.ODone && slices.Contains(fieldsOf(i.Op), "Site") && i.Site == sites[0] {
					d.Segments[n].Ins[at].Site = sites[1]
				}
			}
			mustCheck(t, "with a site twice", d, api.ErrTwice)
		}
	}
}

// P7.13: what is reached, and what is left without it.
func TestReached(t *testing.T) {
	for _, c := range testModules(t, 714, 100) {
		for n := range c.Segments {
			far := mustList(t, c, n, code.Reach)
			for _, m := range far {
				for _, k := range mustList(t, c, m, code.Reach) {
					if !slices.Contains(far, k) {
						t.Fatalf("Reach of %d: %v, without %d of\n%s", n, far, k, rawText(c))
					}
				}
			}
		}
		main, e := code.Find(c, "main")
		if e != api.OK {
			t.Fatalf("Find: %v", e)
		}
		far := mustList(t, c, main, code.Reach)
		d := copyCode(c)
		d.Segments = nil
		for n, s := range c.Segments {
			if n == main || slices.Contains(far, n) {
				d.Segments = append(d.Segments, s)
			}
		}
		mustCheck(t, "without what main does not reach", d, api.OK)
	}
}

// roomy returns code each of whose lists has room behind its end, with something in it.
func roomy(c api.Code) api.Code {
	out := copyCode(c)
	out.Tables = append(out.Tables, api.Table{Name: "room"})[:len(out.Tables)]
	out.Shapes = append(out.Shapes, api.Shape{Kind: 9})[:len(out.Shapes)]
	out.Uses = append(out.Uses, api.Sign{Name: "room"})[:len(out.Uses)]
	out.Segments = append(out.Segments, api.Segment{Name: "room"})[:len(out.Segments)]
	for n := range out.Segments {
		s := &out.Segments[n]
		s.Params = append(s.Params, 77)[:len(s.Params)]
		s.Ins = append(s.Ins, api.Ins{Op: 77})[:len(s.Ins)]
		for at := range s.Ins {
			i := &s.Ins[at]
			i.Args = append(i.Args, 77)[:len(i.Args)]
			i.Cases = append(i.Cases, api.Case{Reg: 77})[:len(i.Cases)]
		}
	}
	return out
}

// hasRoom says whether what roomy put behind lists is still there.
func hasRoom(c api.Code) bool {
	out := c.Tables[:len(c.Tables)+1][len(c.Tables)].Name == "room" && c.Shapes[:len(c.Shapes)+1][len(c.Shapes)].Kind == 9 && c.Uses[:len(c.Uses)+1][len(c.Uses)].Name == "room" && c.Segments[:len(c.Segments)+1][len(c.Segments)].Name == "room"
	for _, s := range c.Segments {
		out = out && s.Params[:len(s.Params)+1][len(s.Params)] == 77 && s.Ins[:len(s.Ins)+1][len(s.Ins)].Op == 77
		for _, i := range s.Ins {
			out = out && i.Args[:len(i.Args)+1][len(i.Args)] == 77 && i.Cases[:len(i.Cases)+1][len(i.Cases)].Reg == 77
		}
	}
	return out
}

// P2, R3, R4: no argument changes, nor what lies behind its lists; nil and empty lists are the same; results are new memory, equal for equal arguments.
func TestMemory(t *testing.T) {
	for _, s := range []string{exampleText, wholeText, callsText, nestedText} {
		c := roomy(mustParse(t, s))
		for n, x := range c.Segments {
			for at := range x.Ins {
				a := mustSight(t, c, n, at)
				before := sightText(c, a)
				scribbleSight(t, a)
				if again := sightText(c, mustSight(t, c, n, at)); again != before {
					t.Fatalf("Sight of %d, %d: %s, and then %s", n, at, before, again)
				}
			}
			for _, call := range []func(c api.Code, segment int) ([]int, api.Errno){code.Sites, code.Calls, code.Reach} {
				a := mustList(t, c, n, call)
				b := slices.Clone(a)
				for i := range a {
					a[i] = -9
				}
				if again := mustList(t, c, n, call); !slices.Equal(again, b) {
					t.Fatalf("of %d: %v, and then %v", n, b, again)
				}
			}
		}
		for n := range c.Shapes {
			l, _ := code.Lattice(c, n)
			scribbleShape(&l.Shape)
			for i := range l.Tables {
				x := &l.Tables[i]
				x.Elems[0] = "odd"
				for j := range x.Above {
					for k := range x.Above[j] {
						x.Above[j][k] = 99
					}
				}
				x.Wrong[0] = true
				x.Name = "odd"
			}
		}
		if mustText(t, c) != s || !hasRoom(c) {
			t.Errorf("an argument has changed: %s", mustText(t, c))
		}
		d := mustParse(t, s)
		for n := range d.Segments {
			s := &d.Segments[n]
			if len(s.Params) == 0 {
				s.Params = []int{}
			}
			for at := range s.Ins {
				if len(s.Ins[at].Args) == 0 {
					s.Ins[at].Args = []int{}
				}
				if len(s.Ins[at].Cases) == 0 {
					s.Ins[at].Cases = []api.Case{}
				}
			}
		}
		if mustText(t, d) != s {
			t.Errorf("with empty lists: %s", mustText(t, d))
		}
		// What is read has memory of its own, list by list.
		a, b := mustParse(t, s), mustParse(t, s)
		for n := range a.Segments {
			for at := range a.Segments[n].Ins {
				i := &a.Segments[n].Ins[at]
				for k := range i.Args {
					i.Args[k] = -7
				}
				for k := range i.Cases {
					i.Cases[k].Reg = -7
				}
				i.Args, i.Cases = append(i.Args, -7), append(i.Cases, api.Case{})
				*i = api.Ins{}
				if at+1 < len(a.Segments[n].Ins) && !sameIns(a.Segments[n].Ins[at+1], b.Segments[n].Ins[at+1]) {
					t.Fatalf("two lists of a module that is read share memory")
				}
			}
			a.Segments[n].Params = append(a.Segments[n].Params, -7)
		}
		if mustText(t, b) != s {
			t.Errorf("two modules that are read share memory")
		}
	}
}

// nestedText has elements with other ones in them.
const nestedText = `lattice l { a: b, c; b: d; c: d; d! }
shape set
shape map(set)
shape pair(map(set), set)
shape l
use far int s0
segment a 9 int
  int r1 1
  set r2 s0 r1
  key r3 s1 r1 r2
  pair r4 s2 r3 r2
  pair r5 s2 - r2
  join r6 s2 r4 r5
  join r7 s2 r4 r4
  zero r0 10
  join r8 s2 r6 r4
  jump 11
  join r8 s2 r4 r6
  note
  halt
`

// scribbleSight writes over all memory of a sight, list by list, and tells if something was written to before.
func scribbleSight(t *testing.T, x api.Sight) {
	t.Helper()
	for r := range x.Regs {
		scribbleElem(t, x.Regs[r].E)
	}
	for r := range x.Regs {
		x.Regs[r] = api.Held{Kind: 99}
	}
	for i := range x.Pools {
		x.Pools[i] = -9
	}
	for i := range x.Passed {
		x.Passed[i] = api.Pass{New: -9}
	}
}

// scribbleElem writes over all memory of an element.
func scribbleElem(t *testing.T, e api.Elem) {
	t.Helper()
	for i := range e.Keys {
		if e.Keys[i] == -9 {
			t.Fatalf("two lists of keys of a sight share memory")
		}
		e.Keys[i] = -9
	}
	for i := range e.Kids {
		if e.Kids[i].Kind == 99 {
			t.Fatalf("two lists of kids of a sight share memory")
		}
		scribbleElem(t, e.Kids[i])
		e.Kids[i] = api.Elem{Kind: 99}
	}
}

// scribbleShape writes over all memory of a shape.
func scribbleShape(s *api.Shape) {
	for i := range s.Kids {
		scribbleShape(&s.Kids[i])
	}
	*s = api.Shape{Kind: 99}
}

// P1: all functions come to an end, without a panic, whatever their arguments are.
func TestOdd(t *testing.T) {
	r := rand.New(rand.NewSource(1))
	numbers := []int{0, 0, 0, 1, 1, 1, 2, 2, 2, 3, 4, -1, -2, -3, 5, 9, 12, 13, 60, 61, 600, 601, 1 << 62, -1 << 63, 1<<63 - 1}
	lists := func() []int {
		var out []int
		for range r.Intn(4) {
			out = append(out, one(r, numbers...))
		}
		return out
	}
	names := []string{"", "main", "k", "far", "add", "neg", "set", "A", "\x00", strings.Repeat("z", 21)}
	met := map[api.Errno]int{}
	for range 4000 {
		c := mustParse(t, one(r, exampleText, wholeText, nestedText))
		for range 1 + r.Intn(4) {
			s := &c.Segments[r.Intn(len(c.Segments))]
			if len(s.Ins) == 0 {
				continue
			}
			i := &s.Ins[r.Intn(len(s.Ins))]
			switch r.Intn(20) {
			default:
				*i = api.Ins{Op: api.ONote}
			case 0:
				i.Op = uint8(r.Intn(28))
			case 1:
				i.A = one(r, numbers...)
			case 2:
				i.B = one(r, numbers...)
			case 3:
				i.C = one(r, numbers...)
			case 4:
				i.N = one(r, numbers...)
			case 5:
				i.S = one(r, numbers...)
			case 6:
				i.Site = one(r, numbers...)
			case 7:
				i.Name = one(r, names...)
			case 8:
				i.Args = lists()
			case 9:
				i.Cases = append(i.Cases, api.Case{Reg: one(r, numbers...), To: one(r, numbers...)})
			case 10:
				s.Params = lists()
			case 11:
				s.Regs = one(r, numbers...)
			case 12:
				s.Name = one(r, names...)
			case 13:
				c.Shapes = append(c.Shapes, one(r, endlessShape(), api.Shape{}, api.Shape{Kind: api.ShapePair}, api.Shape{Kind: api.ShapeNamed, Name: one(r, names...)}))
			case 14:
				c.Tables = append(c.Tables, api.Table{Name: one(r, names...), Elems: names[:r.Intn(3)], Above: [][]int{lists()}, Wrong: []bool{false}})
			case 15:
				s.Ins = s.Ins[:r.Intn(len(s.Ins)+1)]
			}
		}
		e := code.Check(c)
		met[e]++
		for _, x := range answers(c, one(r, numbers...), one(r, numbers...), one(r, numbers...), one(r, names...)) {
			if e != api.OK && (x.e != e || !x.zero) {
				t.Fatalf("%s: %v, Check: %v of %v", x.name, x.e, e, c)
			}
		}
	}
	for _, e := range []api.Errno{api.OK, api.ErrLimit, api.ErrForm, api.ErrTwice, api.ErrName, api.ErrType, api.ErrState} {
		if met[e] == 0 {
			t.Errorf("no module has the error %v: %v", e, met)
		}
	}
}
