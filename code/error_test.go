package code_test

import (
	"fmt"
	"slices"
	"strings"
	"testing"

	"dripstone/api"
	"dripstone/code"
)

// P7.1: modules without an error.
func TestRight(t *testing.T) {
	for _, s := range []string{
		"", exampleText, wholeText, shapesText, "lattice l { a }\n", "shape set\n", "use far int\n", "use a\nuse b v0\nsegment c 0\n  halt\n",
		segmentText("a 0", "halt"), segmentText("a 60 int int", "halt"), segmentText("a.0..z 1 int", "fail r0"),
		segmentText("a 0", "note", "halt") + segmentText("a. 0", "halt"),
		"lattice l { a }\nlattice m { a }\nshape l\nshape m\nshape map(l)\nshape map(m)\nshape pair(l, m)\nshape pair(m, l)\nshape pair(m, m)\n",
	} {
		if strings.HasPrefix(s, "use a") {
			s = "shape max\n" + s
		}
		mustFail(t, s, mustParse(t, s), api.OK)
	}
	if e := code.Check(api.Code{}); e != api.OK {
		t.Errorf("Check of nothing: %v", e)
	}
	if e := code.Check(api.Code{Tables: []api.Table{}, Shapes: []api.Shape{}, Uses: []api.Sign{}, Segments: []api.Segment{}}); e != api.OK {
		t.Errorf("Check of nothing: %v", e)
	}
}

// P7.1: Find returns the number of a segment.
func TestFind(t *testing.T) {
	c := mustParse(t, exampleText)
	for want, name := range []string{"main", "add", "main.0"} {
		if n, e := code.Find(c, name); n != want || e != api.OK {
			t.Errorf("Find of %s: %d, %v", name, n, e)
		}
	}
	w := mustParse(t, wholeText)
	if n, e := code.Find(w, "k"); n != 1 || e != api.OK {
		t.Errorf("Find of k: %d, %v", n, e)
	}
	// far is a use.
	for _, name := range []string{"far", "", "mai", "main.", "Main", "main main", strings.Repeat("a", 21)} {
		if n, e := code.Find(w, name); n != 0 || e != api.ErrNone {
			t.Errorf("Find of %q: %d, %v", name, n, e)
		}
	}
	if n, e := code.Find(api.Code{}, "main"); n != 0 || e != api.ErrNone {
		t.Errorf("Find without segments: %d, %v", n, e)
	}
}

// many returns so many texts that a function makes of numbers, one behind the other.
func many(n int, text func(i int) string) string {
	var out strings.Builder
	for i := range n {
		out.WriteString(text(i))
	}
	return out.String()
}

// manyShapes returns the text of so many shapes.
func manyShapes(n int) string {
	kids := []string{"flag", "max", "set", "once"}
	return many(n, func(i int) string {
		return fmt.Sprintf("shape pair(%s, pair(%s, %s))\n", kids[i%4], kids[i/4%4], kids[i/16%4])
	})
}

// manyNotes returns the text of a segment of so many instructions.
func manyNotes(name string, n int) string {
	return segmentText(name+" 0", append(slices.Repeat([]string{"note"}, n-1), "halt")...)
}

// P7.1, R7: as many as there may be, and one more. With more than there may be nothing else counts.
func TestLimits(t *testing.T) {
	halt := func(name string) string { return segmentText(name+" 0", "halt") }
	odd := func(c *api.Code) {
		c.Uses = append(c.Uses, api.Sign{Name: "%"}, api.Sign{Name: "%"})
	}
	for _, x := range []struct {
		what string
		text string
		more func(c *api.Code)
	}{
		{"tables", many(8, func(i int) string { return fmt.Sprintf("lattice l%d { a }\n", i) }), func(c *api.Code) {
			c.Tables = append(c.Tables, api.Table{Name: "m", Elems: []string{"a"}, Above: [][]int{nil}, Wrong: []bool{false}})
		}},
		{"shapes", manyShapes(40), func(c *api.Code) { c.Shapes = append(c.Shapes, api.Shape{Kind: api.ShapeSet}) }},
		{"uses", many(24, func(i int) string { return fmt.Sprintf("use f%d int\n", i) }), func(c *api.Code) { c.Uses = append(c.Uses, api.Sign{Name: "f"}) }},
		{"segments", many(60, func(i int) string { return halt(fmt.Sprintf("f%d", i)) }), func(c *api.Code) {
			c.Segments = append(c.Segments, api.Segment{Name: "f", Ins: []api.Ins{{Op: api.OHalt}}})
		}},
		{"instructions", manyNotes("a", 700) + manyNotes("b", 800), func(c *api.Code) {
			c.Segments[0].Ins = append(c.Segments[0].Ins, api.Ins{Op: api.OHalt})
		}},
		{"instructions of one segment", manyNotes("a", 1500), func(c *api.Code) {
			c.Segments = append(c.Segments, api.Segment{Name: "f", Ins: []api.Ins{{Op: api.OHalt}}})
		}},
		{"registers", halt("b") + segmentText("a 60", "halt"), func(c *api.Code) { c.Segments[1].Regs++ }},
		{"params", segmentText("a 12"+strings.Repeat(" int", 12), "halt"), func(c *api.Code) {
			c.Segments[0].Params = append(c.Segments[0].Params, -1)
			c.Segments[0].Regs++
		}},
		{"params of a use", "use a\nuse b" + strings.Repeat(" int", 12) + "\n", func(c *api.Code) { c.Uses[1].Params = append(c.Uses[1].Params, -1) }},
	} {
		c := mustParse(t, x.text)
		mustFail(t, x.what, c, api.OK)
		x.more(&c)
		mustFail(t, x.what+", one more", c, api.ErrLimit)
		// It is the first error, whatever else there is.
		if len(c.Uses) < 20 {
			odd(&c)
			mustFail(t, x.what+", one more, and names that are none", c, api.ErrLimit)
		}
	}
	// Form is not what limits ask for.
	for _, x := range []struct {
		what string
		c    api.Code
		want api.Errno
	}{
		{"8 tables without a form", api.Code{Tables: make([]api.Table, 8)}, api.ErrForm},
		{"9 tables without a form", api.Code{Tables: make([]api.Table, 9)}, api.ErrLimit},
		{"40 shapes without a form", api.Code{Shapes: make([]api.Shape, 40)}, api.ErrForm},
		{"41 shapes without a form", api.Code{Shapes: make([]api.Shape, 41)}, api.ErrLimit},
		{"24 uses without a form", api.Code{Uses: make([]api.Sign, 24)}, api.ErrForm},
		{"25 uses without a form", api.Code{Uses: make([]api.Sign, 25)}, api.ErrLimit},
		{"60 segments without a form", api.Code{Segments: make([]api.Segment, 60)}, api.ErrForm},
		{"61 segments without a form", api.Code{Segments: make([]api.Segment, 61)}, api.ErrLimit},
		{"1500 instructions without a form", api.Code{Segments: []api.Segment{{Ins: make([]api.Ins, 1000)}, {Ins: make([]api.Ins, 500)}}}, api.ErrForm},
		{"1501 instructions without a form", api.Code{Segments: []api.Segment{{Ins: make([]api.Ins, 1000)}, {Ins: make([]api.Ins, 501)}}}, api.ErrLimit},
		{"a use with 13 params without a form", api.Code{Uses: []api.Sign{{Params: make([]int, 13)}}}, api.ErrLimit},
		{"a segment with 13 params without a form", api.Code{Segments: []api.Segment{{Params: make([]int, 13)}}}, api.ErrLimit},
		{"very many registers", api.Code{Segments: []api.Segment{{Regs: 1 << 62}}}, api.ErrLimit},
	} {
		mustFail(t, x.what, x.c, x.want)
	}
}

// endlessShape returns a map that is its own kid.
func endlessShape() api.Shape {
	kids := []api.Shape{{Kind: api.ShapeMap}}
	kids[0].Kids = kids
	return kids[0]
}

// P7.1: tables, shapes, uses and the heads of segments that have not their forms.
func TestHeads(t *testing.T) {
	main := func(c *api.Code) *api.Segment { return &c.Segments[0] }
	for i, change := range []func(c *api.Code){
		func(c *api.Code) { c.Tables = nil },
		func(c *api.Code) { c.Tables[0].Name = "set" },
		func(c *api.Code) { c.Tables[0].Wrong[0] = true },
		func(c *api.Code) { c.Tables = append(c.Tables, c.Tables[0]) },
		func(c *api.Code) { c.Shapes, c.Segments, c.Uses, c.Tables[0].Elems = nil, nil, nil, nil },
		func(c *api.Code) { c.Shapes, c.Segments, c.Uses, c.Tables[0].Above[0] = nil, nil, nil, []int{1} },
		func(c *api.Code) { c.Shapes[0].Kind = 0 },
		func(c *api.Code) { c.Shapes[7].Kind = 8 },
		func(c *api.Code) { c.Shapes[0].Name = "l" },
		func(c *api.Code) { c.Shapes[4].Name = "m" },
		func(c *api.Code) { c.Shapes[5].Kids = nil },
		func(c *api.Code) { c.Shapes = append(c.Shapes, endlessShape()) },
		func(c *api.Code) {
			c.Shapes = append(c.Shapes, api.Shape{Kind: api.ShapeMap, Kids: []api.Shape{{Kind: api.ShapeMap, Kids: []api.Shape{{Kind: api.ShapeMap, Kids: c.Shapes[5:6]}}}}})
		},
		func(c *api.Code) { c.Shapes = append(c.Shapes, c.Shapes[0]) },
		func(c *api.Code) { c.Shapes = append(c.Shapes, c.Shapes[4]) },
		func(c *api.Code) { c.Shapes = append(c.Shapes, copyShape(c.Shapes[6])) },
		func(c *api.Code) { main(c).Name = "" },
		func(c *api.Code) { main(c).Name = strings.Repeat("a", 21) },
		func(c *api.Code) { main(c).Name = "Main" },
		func(c *api.Code) { main(c).Name = "0main" },
		func(c *api.Code) { main(c).Name = ".main" },
		func(c *api.Code) { main(c).Name = "ma in" },
		func(c *api.Code) { main(c).Name = "ma-in" },
		func(c *api.Code) { main(c).Name = "mai\n" },
		func(c *api.Code) { main(c).Name = "maiN" },
		func(c *api.Code) { main(c).Name = "ma\xff" },
		func(c *api.Code) { main(c).Name = "ma{" },
		func(c *api.Code) { main(c).Name = "ma:" },
		func(c *api.Code) { main(c).Name = "ma`" },
		func(c *api.Code) { main(c).Name = "ma/" },
		func(c *api.Code) { c.Uses[0].Name = "" },
		func(c *api.Code) { c.Uses[0].Name = "faR" },
		func(c *api.Code) { c.Uses[0].Name = strings.Repeat("a", 21) },
		func(c *api.Code) { c.Uses[0].Params[0] = 8 },
		func(c *api.Code) { c.Uses[0].Params[0] = -10 },
		func(c *api.Code) { c.Uses[0].Params[0] = 1 << 62 },
		func(c *api.Code) { c.Uses[0].Params[0] = -1 << 63 },
		func(c *api.Code) { c.Uses[0].Params[0] = 1<<63 - 1 },
		func(c *api.Code) { main(c).Params[0] = 8 },
		func(c *api.Code) { main(c).Params[0] = -10 },
		func(c *api.Code) { main(c).Regs = 0 },
		func(c *api.Code) { main(c).Regs = -1 },
		func(c *api.Code) { c.Segments[1].Regs = 2 },
		func(c *api.Code) { main(c).Ins = nil },
		func(c *api.Code) { main(c).Ins = []api.Ins{} },
		func(c *api.Code) {
			c.Segments = append(c.Segments, api.Segment{Name: "low", Regs: -1, Ins: []api.Ins{{Op: api.OHalt}}})
		},
		func(c *api.Code) { c.Segments = append(c.Segments, api.Segment{Name: "low"}) },
	} {
		mustFail(t, fmt.Sprintf("change %d", i), changed(t, wholeText, change), api.ErrForm)
	}
	// What can be.
	for i, change := range []func(c *api.Code){
		func(c *api.Code) { main(c).Name = strings.Repeat("a", 20) },
		func(c *api.Code) { main(c).Name = "z" },
		func(c *api.Code) { main(c).Name = "a0.9." },
		func(c *api.Code) { c.Segments[1].Params, c.Segments[1].Name = []int{7, -9}, "other" },
		func(c *api.Code) { c.Uses[0].Params, c.Uses[0].Name = []int{-1, 0, -2, 7, -9}, "other" },
		func(c *api.Code) { main(c).Params, main(c).Regs = []int{-1, -9, 7}, 60 },
	} {
		c := changed(t, wholeText, change)
		want := api.OK
		if i == 3 || i == 4 {
			want = api.ErrName
		}
		mustFail(t, fmt.Sprintf("right change %d", i), c, want)
	}
}

// P7.1: two names, or two sites of a segment, that are the same.
func TestTwice(t *testing.T) {
	for i, x := range []struct {
		s    string
		last func(c *api.Code)
	}{
		{exampleText, func(c *api.Code) { c.Segments[2].Name = "main" }},
		{exampleText, func(c *api.Code) { c.Uses = []api.Sign{{Name: "add"}} }},
		{exampleText, func(c *api.Code) { c.Uses = []api.Sign{{Name: "far"}, {Name: "near"}, {Name: "far"}} }},
		{exampleText, func(c *api.Code) { c.Segments[0].Ins[1].Site = 0 }},
		{exampleText, func(c *api.Code) { c.Segments[0].Ins[2].Site = 1 }},
		{exampleText, func(c *api.Code) { c.Segments[0].Ins[3].Site = 2 }},
		{exampleText, func(c *api.Code) { c.Segments[0].Ins[5].Site = 1 }},
		{exampleText, func(c *api.Code) { c.Segments[0].Ins[0].Site = 4 }},
		{wholeText, func(c *api.Code) { c.Segments[0].Ins[16].Site = 0 }},
		{wholeText, func(c *api.Code) { c.Segments[0].Ins[1].Site = 3 }},
		// Also of what is not reached.
		{segmentText("a 2", "halt", "new r0 s0 own 1", "halt"), func(c *api.Code) {
			c.Segments[0].Ins = slices.Insert(c.Segments[0].Ins, 1, api.Ins{Op: api.OAll, Site: 1})
		}},
	} {
		s := x.s
		if i == 10 {
			s = "shape set\n" + s
		}
		mustFail(t, fmt.Sprintf("change %d", i), changed(t, s, x.last), api.ErrTwice)
	}
	// An ODone has no site of its own; sites of other segments do not count.
	mustFail(t, "two pools", mustParse(t, segmentText("a 0", "all 1", "done 1", "all 2", "done 2", "halt")+segmentText("b 0", "all 1", "done 1", "halt")), api.OK)
	mustFail(t, "pools with the same site", changed(t, segmentText("a 0", "all 1", "done 1", "all 2", "done 2", "halt"), func(c *api.Code) {
		c.Segments[0].Ins[2].Site, c.Segments[0].Ins[3].Site = 1, 1
	}), api.ErrTwice)
}

// P7.1: names that mean nothing.
func TestNames(t *testing.T) {
	for i, change := range []func(c *api.Code){
		func(c *api.Code) { c.Segments[0].Ins[2].Name = "sub" },
		func(c *api.Code) { c.Segments[0].Ins[2].Name = "main.1" },
		func(c *api.Code) { c.Segments[0].Ins[3].Name = "sub" },
		func(c *api.Code) {
			c.Segments[0].Ins[3].Name, c.Uses = "far", []api.Sign{{Name: "far", Params: []int{0, -1}}}
		},
		func(c *api.Code) { c.Segments = c.Segments[:2] },
		func(c *api.Code) { c.Segments = []api.Segment{c.Segments[0], c.Segments[2]} },
		// Also where it is not reached.
		func(c *api.Code) {
			c.Segments[1].Ins = append(c.Segments[1].Ins, api.Ins{Op: api.OSpawn, Name: "sub"}, api.Ins{Op: api.OHalt})
		},
		func(c *api.Code) {
			c.Segments[1].Ins = append(c.Segments[1].Ins, api.Ins{Op: api.OEach, Name: "sub"}, api.Ins{Op: api.OHalt})
		},
		func(c *api.Code) {
			c.Uses = []api.Sign{{Name: "far", Params: []int{-1}}}
			c.Segments[1].Ins = append(c.Segments[1].Ins, api.Ins{Op: api.OEach, Name: "far"}, api.Ins{Op: api.OHalt})
		},
	} {
		mustFail(t, fmt.Sprintf("change %d", i), changed(t, exampleText, change), api.ErrName)
	}
	mustFail(t, "a spawn of a use", changed(t, exampleText, func(c *api.Code) {
		c.Segments[0].Ins[2].Name, c.Uses = "far", []api.Sign{{Name: "near"}, {Name: "far", Params: []int{0}}}
	}), api.OK)
}

// faults are changes of the example, each with its error.
func faults() []struct {
	e  api.Errno
	do func(c *api.Code)
} {
	return []struct {
		e  api.Errno
		do func(c *api.Code)
	}{
		{api.ErrLimit, func(c *api.Code) { c.Segments[2].Regs = 61 }},
		{api.ErrForm, func(c *api.Code) { c.Segments[2].Ins[0].B = 1 }},
		{api.ErrTwice, func(c *api.Code) { c.Uses = []api.Sign{{Name: "main.0"}} }},
		{api.ErrName, func(c *api.Code) {
			c.Segments[2].Ins = append(c.Segments[2].Ins, api.Ins{Op: api.OSpawn, Name: "sub"}, api.Ins{Op: api.OHalt})
		}},
	}
}

// R1: of several errors that which is named first, wherever it is; but types and growth by the instructions.
func TestOrderOfErrors(t *testing.T) {
	wrongType := func(c *api.Code, segment int) { c.Segments[segment].Ins[0] = api.Ins{Op: api.OFail, A: 1} }
	wrongState := func(c *api.Code, segment int) { c.Segments[segment].Ins[0] = api.Ins{Op: api.ODone, Site: 9} }
	l := faults()
	for i, first := range l {
		for _, x := range []struct {
			what string
			do   func(c *api.Code)
		}{
			{"a wrong type", func(c *api.Code) { wrongType(c, 1) }},
			{"a wrong state", func(c *api.Code) { wrongState(c, 1) }},
		} {
			c := mustParse(t, exampleText)
			first.do(&c)
			mustFail(t, "alone", c, first.e)
			x.do(&c)
			mustFail(t, x.what, c, first.e)
			for _, other := range l[i+1:] {
				other.do(&c)
				mustFail(t, fmt.Sprintf("%s, and %v behind %v", x.what, other.e, first.e), c, first.e)
			}
		}
	}
	for _, x := range []struct {
		types, states int
		want          api.Errno
	}{{0, 1, api.ErrType}, {1, 0, api.ErrState}, {1, 2, api.ErrType}, {2, 1, api.ErrState}} {
		c := mustParse(t, exampleText)
		wrongType(&c, x.types)
		wrongState(&c, x.states)
		mustFail(t, fmt.Sprintf("a wrong type in %d, a wrong state in %d", x.types, x.states), c, x.want)
	}
	// One behind the other in a segment.
	for _, x := range []struct {
		lines []string
		want  api.Errno
	}{
		{[]string{"note", "fail r1", "done 3", "halt"}, api.ErrType},
		{[]string{"done 3", "note", "fail r1", "halt"}, api.ErrState},
		{[]string{"zero r0 3", "note", "fail r1", "done 3", "halt"}, api.ErrType},
		{[]string{"zero r0 3", "done 3", "halt", "fail r1"}, api.ErrState},
		{[]string{"jump 2", "fail r1", "done 3", "halt"}, api.ErrState},
		// At one instruction: ways with other pools that meet, then types, then growth.
		{[]string{"zero r0 2", "all 1", "fail r1"}, api.ErrState},
		{[]string{"zero r0 3", "all 1", "jump 3", "fail r1"}, api.ErrState},
		{[]string{"zero r0 3", "all 1", "fail r1", "halt"}, api.ErrType},
		{[]string{"new r1 s0 own 0", "freeze r1 r1 1", "put r1 r0", "done 3", "halt"}, api.ErrType},
		{[]string{"new r1 s0 own 0", "spawn t 1 r1", "halt"}, api.ErrState},
		{[]string{"new r1 s0 own 0", "spawn t 1 r1 r1", "halt"}, api.ErrType},
		{[]string{"new r1 s0 own 0", "spawn k 1 r1 r1", "halt"}, api.ErrType},
		{[]string{"new r1 s0 own 0", "each r1 k 1", "halt"}, api.ErrType},
		{[]string{"new r1 s0 own 0", "each r1 k 1 r1", "halt"}, api.ErrState},
		{[]string{"new r1 s0 shared 0", "each r1 k 1 r1", "halt"}, api.ErrType},
	} {
		mustFail(t, strings.Join(x.lines, "; "), readAny(t, x.lines...), x.want)
	}
}
