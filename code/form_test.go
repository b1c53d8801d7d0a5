package code_test

import (
	"fmt"
	"math"
	"slices"
	"strings"
	"testing"

	"dripstone/api"
	"dripstone/code"
)

// fieldNames are the fields of instructions.
func fieldNames() []string {
	return []string{"A", "B", "C", "N", "S", "Site", "Name", "Args", "Cases"}
}

// tableOfFields are the fields of the chapter's table.
var tableOfFields = map[uint8]string{
	api.OInt: "A N", api.OArith: "A Name B C", api.OOn: "A S", api.OName: "A S N", api.OPoint: "A S B", api.OSet: "A S B", api.OKey: "A S B C", api.OPair: "A S B C", api.OJoin: "A S B C",
	api.ONew: "A S B Site", api.OPut: "A B", api.OSpawn: "Name Args Site", api.OWhen: "A Cases Site", api.OEach: "A Name Args Site", api.OAll: "Site", api.ODone: "Site", api.OFreeze: "A B Site",
	api.OSize: "A B", api.OHas: "A B C", api.OValue: "A B C", api.OJump: "N", api.OZero: "A N", api.ONote: "", api.OFail: "A", api.OHalt: "",
}

// fieldsOf are the fields of an operation.
func fieldsOf(op uint8) []string {
	return strings.Fields(tableOfFields[op])
}

// shapesOf are the numbers of shapes, in shapesText, that the S of an instruction can be.
func shapesOf(op uint8) []int {
	l, ok := map[uint8][]int{api.OOn: {2}, api.OName: {4}, api.OPoint: {1, 3}, api.OSet: {0}, api.OKey: {5, 7}, api.OPair: {6}}[op]
	if !ok {
		return []int{0, 1, 2, 3, 4, 5, 6, 7}
	}
	return l
}

// numberAt returns where a field that is a number stands.
func numberAt(i *api.Ins, field string) *int {
	return map[string]*int{"A": &i.A, "B": &i.B, "C": &i.C, "N": &i.N, "S": &i.S, "Site": &i.Site}[field]
}

// withField returns an instruction that has something in a field.
func withField(i api.Ins, field string) []api.Ins {
	var out []api.Ins
	switch field {
	case "Name":
		for _, name := range []string{"x", "add", "main", "k"} {
			i.Name = name
			out = append(out, i)
		}
	case "Args":
		i.Args = []int{0}
		out = append(out, i)
	case "Cases":
		i.Cases = []api.Case{{Reg: 0, To: 39}}
		out = append(out, i)
	default:
		for _, n := range []int{1, 2, -1, 39, math.MaxInt, math.MinInt} {
			*numberAt(&i, field) = n
			out = append(out, i)
		}
	}
	return out
}

// instructions calls a function with each instruction of main of wholeText, and so with each operation. What the function makes of it is put in its place, and must be (or not be) of its form, also where it is not reached.
func instructions(t *testing.T, call func(at int, i api.Ins, test func(what string, i api.Ins, right bool))) {
	t.Helper()
	c := mustParse(t, wholeText)
	met := map[uint8]bool{}
	for at, i := range c.Segments[0].Ins {
		met[i.Op] = true
		test := func(what string, x api.Ins, right bool) {
			t.Helper()
			what = fmt.Sprintf("%s at %d: %s", strings.Join(rawIns(i), " "), at, what)
			d := copyCode(c)
			d.Segments[0].Ins[at] = x
			if e := code.Check(d); (e == api.ErrForm) == right {
				t.Errorf("%s: %v", what, e)
			}
			// What stands first, but is not reached.
			d = mustParse(t, wholeText)
			l := d.Segments[0].Ins
			for at := range l {
				if l[at].Op == api.OJump || l[at].Op == api.OZero {
					l[at].N += 2
				}
				for n := range l[at].Cases {
					l[at].Cases[n].To += 2
				}
			}
			x.Site, x.Cases = otherSite(x, i), slices.Clone(x.Cases)
			d.Segments[0].Ins = slices.Insert(l, 0, api.Ins{Op: api.OJump, N: 2}, x)
			if e := code.Check(d); (e == api.ErrForm) == right && at > 0 {
				t.Errorf("%s, not reached: %v", what, e)
			}
		}
		call(at, i, test)
	}
	for op := uint8(api.OInt); op <= api.OHalt; op++ {
		if !met[op] {
			t.Errorf("no instruction has the operation %d", op)
		}
	}
}

// otherSite returns a site in the place of that of an instruction: another one, if it is still its own one.
func otherSite(x, before api.Ins) int {
	if x.Site == before.Site && len(fieldsOf(x.Op)) > 0 && slices.Contains(fieldsOf(x.Op), "Site") {
		return 500
	}
	return x.Site
}

// P7.1: what is not mentioned is 0, empty, or nothing.
func TestFieldsNotMentioned(t *testing.T) {
	instructions(t, func(at int, i api.Ins, test func(what string, i api.Ins, right bool)) {
		test("as it is", i, true)
		for _, field := range fieldNames() {
			mentioned := slices.Contains(fieldsOf(i.Op), field) && !(i.Op == api.OArith && i.Name == "neg" && field == "C")
			if mentioned {
				continue
			}
			for _, x := range withField(i, field) {
				test("with something in "+field, x, false)
			}
		}
		x := i
		x.Args, x.Cases = []int{}, []api.Case{}
		if len(i.Args)+len(i.Cases) == 0 {
			test("with empty lists", x, true)
		}
	})
}

// P7.1: there is such an operation.
func TestOperations(t *testing.T) {
	instructions(t, func(at int, i api.Ins, test func(what string, i api.Ins, right bool)) {
		for _, op := range []uint8{0, 26, 255} {
			test("of no operation", api.Ins{Op: op}, false)
			i.Op = op
			test("of no operation", i, false)
		}
	})
}

// P7.1: registers are there.
func TestRegisters(t *testing.T) {
	instructions(t, func(at int, i api.Ins, test func(what string, i api.Ins, right bool)) {
		for _, field := range []string{"A", "B", "C"} {
			if !slices.Contains(fieldsOf(i.Op), field) || field == "B" && i.Op == api.ONew || field == "C" && i.Name == "neg" {
				continue
			}
			for _, r := range []int{-1, 12, -2, math.MaxInt, math.MinInt, 0, 11} {
				x := i
				*numberAt(&x, field) = r
				right := r >= 0 && r < 12
				// Of a pair one of both may be nothing.
				if i.Op == api.OPair && field != "A" && r == -1 {
					right = x.B >= 0 || x.C >= 0
				}
				test(fmt.Sprintf("%s is %d", field, r), x, right)
			}
		}
		for n := range i.Args {
			for _, r := range []int{-1, 12, 0, 11} {
				x := i
				x.Args = slices.Clone(i.Args)
				x.Args[n] = r
				test(fmt.Sprintf("argument %d is %d", n, r), x, r >= 0 && r < 12)
			}
		}
		for n := range i.Cases {
			for _, r := range []int{-1, 12, 0, 11} {
				x := i
				x.Cases = slices.Clone(i.Cases)
				x.Cases[n].Reg = r
				test(fmt.Sprintf("the register of the case %d is %d", n, r), x, r >= 0 && r < 12)
			}
		}
		if i.Op == api.OPair {
			i.B, i.C = -1, -1
			test("of nothing", i, false)
		}
		if i.Op == api.ONew {
			for _, b := range []int{0, 1, 2, -1, 12} {
				i.B = b
				test(fmt.Sprintf("B is %d", b), i, b == 0 || b == 1)
			}
		}
	})
}

// P7.1: shapes are there, and of the kind that is needed.
func TestShapes(t *testing.T) {
	instructions(t, func(at int, i api.Ins, test func(what string, i api.Ins, right bool)) {
		if !slices.Contains(fieldsOf(i.Op), "S") {
			return
		}
		for _, s := range []int{-1, 8, math.MaxInt, math.MinInt, 0, 1, 2, 3, 4, 5, 6, 7} {
			x := i
			x.S = s
			test(fmt.Sprintf("S is %d", s), x, slices.Contains(shapesOf(i.Op), s))
		}
	})
}

// P7.1: numbers, elements, places and sites.
func TestNumbers(t *testing.T) {
	instructions(t, func(at int, i api.Ins, test func(what string, i api.Ins, right bool)) {
		if slices.Contains(fieldsOf(i.Op), "Site") {
			for _, site := range []int{-1, 601, math.MaxInt, math.MinInt, 400, 600} {
				x := i
				x.Site = site
				test(fmt.Sprintf("the site is %d", site), x, site >= 0 && site <= 600)
			}
		}
		for _, n := range []int{math.MinInt, -1000000001, -1000000000, -1, 0, 1, 3, 4, at - 1, at, at + 1, 39, 40, 1000000000, 1000000001, math.MaxInt} {
			x := i
			x.N = n
			switch i.Op {
			case api.OInt:
				test(fmt.Sprintf("N is %d", n), x, n >= -1000000000 && n <= 1000000000)
			case api.OName:
				test(fmt.Sprintf("N is %d", n), x, n >= 1 && n <= 3)
			}
		}
	})
}

// P7.1: N of OJump and OZero, and To of cases, are places that are greater than their own.
func TestPlaces(t *testing.T) {
	c := mustParse(t, segmentText("a 2 int", "note", "note", "jump 4", "note", "zero r0 6", "note", "halt"))
	w := mustParse(t, "shape flag\n"+segmentText("a 2 s0", "on r1 s0", "note", "note", "note", "when r0 1 r1>6", "halt", "halt"))
	for n := -2; n < 10; n++ {
		for _, at := range []int{2, 4} {
			x := copyCode(c)
			x.Segments[0].Ins[at].N = n
			want := api.ErrForm
			if n > at && n < 7 {
				want = api.OK
			}
			if e := code.Check(x); e != want {
				t.Errorf("N at %d is %d: %v", at, n, e)
			}
			if at == 4 {
				x = copyCode(w)
				x.Segments[0].Ins[4].Cases[0].To = n
				if e := code.Check(x); e != want {
					t.Errorf("To at %d is %d: %v", at, n, e)
				}
			}
		}
	}
	for _, n := range []int{math.MaxInt, math.MinInt} {
		c.Segments[0].Ins[2].N = n
		mustFail(t, "a jump to nowhere", c, api.ErrForm)
		w.Segments[0].Ins[4].Cases[0].To = n
		mustFail(t, "a case to nowhere", w, api.ErrForm)
	}
}

// P7.1: words of arithmetic, and names of tasks.
func TestWords(t *testing.T) {
	instructions(t, func(at int, i api.Ins, test func(what string, i api.Ins, right bool)) {
		if !slices.Contains(fieldsOf(i.Op), "Name") {
			return
		}
		for _, name := range []string{"add", "sub", "mul", "div", "neg", "eq", "ne", "lt", "le", "gt", "ge", "", "pow", "and", "Add", "a b", "1", "k", "sub "} {
			x := i
			x.Name = name
			right := slices.Contains(strings.Fields("add sub mul div neg eq ne lt le gt ge"), name)
			if i.Op != api.OArith {
				right = !slices.Contains([]string{"", "Add", "a b", "1", "sub "}, name)
			}
			if name == "neg" && i.Op == api.OArith && x.C != 0 {
				test("neg with C", x, false)
				x.C = 0
			}
			test("the name is "+name, x, right)
		}
	})
}

// P7.1: cases, from 1 to MaxCases.
func TestCases(t *testing.T) {
	for n := range 6 {
		i := api.Ins{Op: api.OWhen, A: 0, Site: 1}
		for range n {
			i.Cases = append(i.Cases, api.Case{Reg: 1, To: 4})
		}
		// It is not reached, so that nothing else is asked of it.
		c := changed(t, "shape once\n"+segmentText("a 3 s0 int", "jump 4", "note", "note", "note", "halt"), func(c *api.Code) { c.Segments[0].Ins[3] = i })
		want := api.OK
		if n < 1 || n > 4 {
			want = api.ErrForm
		}
		mustFail(t, fmt.Sprintf("%d cases", n), c, want)
	}
	for n := 1; n <= 5; n++ {
		s := "shape once\nsegment a 6 s0\n"
		when := "  when r0 1"
		for i := range n {
			s += fmt.Sprintf("  int r%d %d\n  point r%d s0 r%d\n", i+1, i, i+1, i+1)
			when += fmt.Sprintf(" r%d>%d", i+1, 2*n+1)
		}
		c := readCode(t, s+when+"\n  halt\n")
		want := api.OK
		if n == 5 {
			want = api.ErrForm
		}
		mustFail(t, fmt.Sprintf("%d cases that exclude each other", n), c, want)
	}
}

// P7.1: behind the last instruction of a segment none follows.
func TestLast(t *testing.T) {
	for s, want := range map[string]api.Errno{
		"halt": api.OK, "fail r0": api.OK, "note": api.ErrForm, "int r1 1": api.ErrForm, "zero r0 3": api.ErrForm, "jump 3": api.ErrForm, "jump 2": api.ErrForm, "when r1 1 r1>3": api.ErrForm, "all 1": api.ErrForm, "put r1 r1": api.ErrForm,
	} {
		mustFail(t, "behind "+s, readAny(t, "note", "note", s), want)
		// Also where it is not reached.
		mustFail(t, "behind "+s, readAny(t, "note", "halt", s), want)
	}
	mustFail(t, "the last segment", readCode(t, segmentText("a 0", "halt")+segmentText("b 0", "halt", "note")), api.ErrForm)
}
