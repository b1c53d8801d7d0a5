package compile_test

import (
	"slices"
	"strings"
	"testing"

	"dripstone/api"
	"dripstone/code"
	"dripstone/compile"
	"dripstone/order"
)

// head returns the lines of a module before its segments.
func head(t *testing.T, s string) []string {
	t.Helper()
	l := listing(t, s)
	n := slices.IndexFunc(l, func(line string) bool { return strings.HasPrefix(line, "segment ") })
	if n < 0 {
		return l
	}
	return l[:n]
}

// segments returns the heads of the segments of a module.
func segments(t *testing.T, s string) []string {
	t.Helper()
	return slices.DeleteFunc(listing(t, s), func(line string) bool { return !strings.HasPrefix(line, "segment ") })
}

// P8.1, P8.2: tables, shapes and uses stand in the order of their nodes; each shape once, with all that are in it.
func TestShapes(t *testing.T) {
	for s, want := range map[string]string{
		"":                                  "",
		"task f() { }":                      "",
		"task f(n: int) { fail n; }":        "",
		"use f();":                          "use f",
		"use f(int, int);":                  "use f int int",
		"use f(int, set, int);":             "shape set; use f int s0 int",
		"use f(set, set);":                  "shape set; use f s0 s0",
		"use f(max, set); use g(set, max);": "shape max; shape set; use f s0 s1; use g s1 s0",
		"use f(map(map(set)), map(set));":   "shape map(map(set)); shape map(set); shape set; use f s0 s1",
		"use f(pair(pair(flag, max), pair(max, flag)));":                            "shape pair(pair(flag, max), pair(max, flag)); shape pair(flag, max); shape flag; shape max; shape pair(max, flag); use f s0",
		"task f(a: once) { new b: flag; share c: once; if 1 { new d: max; } }":      "shape once; shape flag; shape max",
		"task f() { new a: flag; } use g(max); task h(b: flag, c: set) { }":         "shape flag; shape max; shape set; use g s1",
		"task f() { new a: l; } lattice l { a } use g(m); lattice m { c }":          "lattice l { a }; lattice m { c }; shape l; shape m; use g s1",
		"lattice z { a } lattice y { b }":                                           "lattice z { a }; lattice y { b }",
		"use z(int); task f() { } use a(map(flag)); task b() { } use c(flag, int);": "shape map(flag); shape flag; use z int; use a s0; use c s1 int",
	} {
		if got := head(t, s); !slices.Equal(got, lines(want)) {
			t.Errorf("Text of %q: %s, and not %s", s, strings.Join(got, "; "), want)
		}
		var names []string
		l, e := compile.Shapes(mustParse(t, s))
		for _, shape := range l {
			name, f := order.ShapeText(shape)
			if f != api.OK {
				t.Fatalf("ShapeText: %v of %v", f, shape)
			}
			names = append(names, "shape "+name)
		}
		shapes := slices.DeleteFunc(lines(want), func(line string) bool { return !strings.HasPrefix(line, "shape ") })
		if e != api.OK || !slices.Equal(names, shapes) {
			t.Errorf("Shapes of %q: %v, %v", s, names, e)
		}
	}
}

// P8.1, P8.2: the homes stand in the order of their nodes; their names, registers and params.
func TestSegments(t *testing.T) {
	for s, want := range map[string]string{
		"":                              "",
		"use f();":                      "",
		"task f() { }":                  "segment f 1",
		"task a2345678901b(n: int) { }": "segment a2345678901b 1 int",
		"task f(a: int, b: int) { }":    "segment f 2 int int",
		"task f(a: set, b: int, c: max, d: set) { }": "segment f 4 s0 int s1 s0",
		"task f() { let a = 1; }":                    "segment f 1",
		"task f() { fail 1 + 2; }":                   "segment f 2",
		"task g() { } task f() { }":                  "segment g 1; segment f 1",
		"task f(n: int) { let a = n; let b = a; }":   "segment f 1 int",
		// Registers are used again.
		"task f() { if 1 { let a = 1; let b = 2; } let c = 3; }":                     "segment f 2",
		"task f() { let a = 1 + (2 + (3 + 4)); let b = 5; }":                         "segment f 4",
		"task f(x: set) { when x {1} { let a = 1; let b = 1; let c = 1; } fail 1; }": "segment f 4 s0",
		"task f(x: set) { put x {1, 2, 3, 4}; put x {1, 2}; }":                       "segment f 3 s0",
		// EachStmts have names by their numbers in the task, and params by what they mean.
		"task f() { new x: set; all { each x as a { } each x as b { } } }":                                                                                 "segment f 1; segment f.0 1 int; segment f.1 1 int",
		"task f() { new x: set; all { each x as a { put x {a}; } } } task g() { new x: map(set); all { each x as a { } each x as b { put x [b] {b}; } } }": "segment f 1; segment f.0 3 s0 int; segment g 1; segment g.0 1 int; segment g.1 3 s1 int",
		"task f(n: int, y: max) { new x: set; let m = n; all { each x as a { put y m; } } }":                                                               "segment f 3 int s0; segment f.0 4 s0 int int",
		"task f(n: int, y: max) { new x: set; let m = n; all { each x as a { put y m + n; } } }":                                                           "segment f 3 int s0; segment f.0 5 int s0 int int",
		"task f() { new u: max; freeze u as v; new x: set; all { each x as a { fail value(v, a); } } }":                                                    "segment f 3; segment f.0 3 v0 int",
		"task f() { new w: set; new u: map(set); freeze u as v; freeze w as z; new x: set; all { each x as a { fail size(z) + size(v); } } }":              "segment f 5; segment f.0 5 v1 v0 int",
		// What is in an inner one is meant in the outer one, too, but for what this declares.
		"task f(n: int, p: set) { new x: set; all { each x as a { new y: set; all { each y as b { put p {n, a, b}; } } } } }": "segment f 3 int s0; segment f.0 4 int s0 int; segment f.1 6 int s0 int int",
		"task f(p: set) { new x: set; all { each x as a { new y: set; all { each y as b { } } } each x as c { } } } ":         "segment f 2 s0; segment f.0 2 int; segment f.1 1 int; segment f.2 1 int",
	} {
		if got := segments(t, s); !slices.Equal(got, lines(want)) {
			t.Errorf("Text of %q: %s, and not %s", s, strings.Join(got, "; "), want)
		}
	}
}

// The eleventh EachStmt of a task has two digits, also if it is in another one.
func TestManyEachs(t *testing.T) {
	s := "task f() { new x: set; all { "
	for _, name := range strings.Split("abcdefghij", "") {
		s += "each x as " + name + "1 { } "
	}
	s += "each x as k { new y: set; all { each y as l { } } } } } task g() { new x: set; all { each x as k { } } }"
	got := segments(t, s)
	want := lines("segment f 1; segment f.0 1 int; segment f.1 1 int; segment f.2 1 int; segment f.3 1 int; segment f.4 1 int; segment f.5 1 int; segment f.6 1 int; segment f.7 1 int; segment f.8 1 int; segment f.9 1 int; segment f.10 2 int; segment f.11 1 int; segment g 1; segment g.0 1 int")
	if !slices.Equal(got, want) {
		t.Errorf("Text: %s", strings.Join(got, "; "))
	}
	names := slices.DeleteFunc(listing(t, s), func(line string) bool { return !strings.HasPrefix(line, "each ") })
	if !slices.Equal(names, lines("each r0 f.0 2; each r0 f.1 3; each r0 f.2 4; each r0 f.3 5; each r0 f.4 6; each r0 f.5 7; each r0 f.6 8; each r0 f.7 9; each r0 f.8 10; each r0 f.9 11; each r0 f.10 12; each r1 f.11 15; each r0 g.0 2")) {
		t.Errorf("Text: %s", strings.Join(names, "; "))
	}
}

// P8.1: the sites are those of the tree: of a task, with its EachStmts, from 0 on.
func TestSites(t *testing.T) {
	s := "task f(p: set) { new a: set; if 1 { share b: set; } when p {1} { all { spawn f(p); } } all { each a as k { new c: set; all { each c as l { spawn f(p); put p {l}; } } freeze c as d; } spawn f(a); } freeze a as e; } task g(p: set) { spawn f(p); }"
	l := slices.DeleteFunc(listing(t, s), func(line string) bool {
		return !strings.Contains("segment new spawn when each all done freeze", strings.Split(line, " ")[0])
	})
	want := lines("segment f 3 s0; new r1 s0 own 0; new r2 s0 shared 1; when r0 2 r2>8; all 3; spawn f 4 r0; done 3; all 5; each r1 f.0 6 r0; spawn f 12 r1; done 5; freeze r2 r1 13; segment f.0 4 s0 int; new r2 s0 own 7; all 8; each r2 f.1 9 r0; done 8; freeze r3 r2 11; segment f.1 3 s0 int; spawn f 10 r0; segment g 1 s0; spawn f 0 r0")
	if !slices.Equal(l, want) {
		t.Errorf("Text: %s", strings.Join(l, "; "))
	}
}

// P8.2, P8.3: homes are the tasks and the EachStmts alone; of others there are no segments, and no registers.
func TestHomes(t *testing.T) {
	for _, u := range testModules(t)[:20] {
		homes := mustHomes(t, u)
		var want []int
		for node, n := range u.Nodes {
			if n.Kind == api.TaskItem || n.Kind == api.EachStmt {
				want = append(want, node)
			}
		}
		if !slices.Equal(homes, want) {
			t.Fatalf("Homes: %v, and not %v of\n%s", homes, want, mustPrint(t, u))
		}
		for node := -2; node < len(u.Nodes)+2; node++ {
			if slices.Contains(want, node) {
				continue
			}
			if s, e := compile.Segment(u, node); e != api.ErrNone || !same(s, api.Segment{}) {
				t.Fatalf("Segment of %d: %v, %v of\n%s", node, s, e, mustPrint(t, u))
			}
			if l, e := compile.Registers(u, node); e != api.ErrNone || len(l) > 0 {
				t.Fatalf("Registers of %d: %v, %v of\n%s", node, l, e, mustPrint(t, u))
			}
		}
	}
}

// known returns what is known in a home, by the names of the declarations: their registers. All other nodes have none.
func known(t *testing.T, u api.Tree, home int) map[string]int {
	t.Helper()
	l := mustRegisters(t, u, home)
	if len(l) != len(u.Nodes) {
		t.Fatalf("Registers of %d: %d of %d nodes", home, len(l), len(u.Nodes))
	}
	out := map[string]int{}
	for node, reg := range l {
		if reg == -1 {
			continue
		}
		if !slices.Contains([]uint8{api.ParamNode, api.NewStmt, api.ShareStmt, api.LetStmt, api.BindNode}, u.Nodes[node].Kind) {
			t.Fatalf("Registers of %d: the node %d has %d", home, node, reg)
		}
		out[u.Nodes[node].Text] = reg
	}
	return out
}

// P8.3: the registers of declarations, in the segment of a home.
func TestRegisters(t *testing.T) {
	for _, x := range []struct {
		s    string
		want []map[string]int
	}{
		{exampleText, []map[string]int{{"n": 0, "x": 1, "y": 2}, {"x": 0, "k": 1}, {"p": 0, "n": 1}}},
		{"task f() { }", []map[string]int{{}}},
		{"use g(int); task f(a: int) { }", []map[string]int{{"a": 0}}},
		{"task f(a: int) { let b = a; let c = b; let d = 1; let e = d; let g = e + 1; let h = g; }", []map[string]int{{"a": 0, "b": 0, "c": 0, "d": 1, "e": 1, "g": 2, "h": 2}}},
		{"task f() { if 1 { let a = 1; let b = 2; } else { let c = 1; } let d = 1; }", []map[string]int{{"a": 0, "b": 1, "c": 0, "d": 0}}},
		{"task f(x: set) { when x {1, 2, 3} { let a = 1; } let d = 1; all { let b = 2; } let c = 3; }", []map[string]int{{"x": 0, "a": 1, "d": 1, "b": 2, "c": 2}}},
		{"task f() { fail 1; let a = 2; new b: set; freeze b as c; }", []map[string]int{{"a": 0, "b": 1, "c": 2}}},
		{"task f(n: int) { let m = n; new x: set; all { each x as k { fail m + n; } each x as l { let o = l; let p = m; } } let q = 1; }", []map[string]int{{"n": 0, "m": 0, "x": 1, "q": 2}, {"n": 0, "m": 1, "k": 2}, {"m": 0, "l": 1, "o": 1, "p": 0}}},
		{nestedText, []map[string]int{
			{"n": 0, "p": 1, "z": 2, "w": 3, "v": 4, "o": 0, "q": 5, "x": 6, "u": 7},
			{"n": 0, "p": 1, "z": 2, "v": 3, "o": 4, "q": 5, "a": 6, "y": 7},
			{"p": 0, "v": 1, "o": 2, "q": 3, "a": 4, "b": 5, "c": 5},
			{"d": 0},
			{"n": 0, "p": 1, "u": 2, "e": 3},
			{"k": 0, "x": 1},
			{"i": 0},
		}},
	} {
		u := mustModule(t, x.s)
		homes := mustHomes(t, u)
		for i, want := range x.want {
			got := known(t, u, homes[i])
			for name, reg := range want {
				if r, ok := got[name]; !ok || r != reg {
					t.Errorf("Registers of %d: %s has %d, %v, and not %d of %s", i, name, r, ok, reg, x.s)
				}
			}
			if len(got) != len(want) {
				t.Errorf("Registers of %d: %v of %s", i, got, x.s)
			}
		}
	}
}

// P8.3, P8.9: the segment of a home is that of the code.
func TestSegmentsOfCode(t *testing.T) {
	for _, u := range testModules(t) {
		c := mustCompile(t, u)
		for i, home := range mustHomes(t, u) {
			if s := mustSegment(t, u, home); !same(s, c.Segments[i]) {
				t.Fatalf("Segment of %d: %v, and not %v of\n%s", home, s, c.Segments[i], mustPrint(t, u))
			}
		}
	}
}

// P8.4: instructions stand for nodes of the kinds that the chapter lists, in their homes.
func TestOrigins(t *testing.T) {
	kinds := map[uint8][]uint8{
		api.OInt: {api.NumNode, api.NegNode}, api.OArith: {api.EqNode, api.NeNode, api.LtNode, api.LeNode, api.GtNode, api.GeNode, api.AddNode, api.SubNode, api.MulNode, api.DivNode, api.NegNode},
		api.OOn: {api.OnPoint}, api.OName: {api.NamePoint}, api.OPoint: {api.IntPoint}, api.OSet: {api.SetPoint}, api.OKey: {api.KeyPoint}, api.OPair: {api.PairPoint}, api.OJoin: {api.SetPoint},
		api.ONew: {api.NewStmt, api.ShareStmt}, api.OPut: {api.PutStmt}, api.OSpawn: {api.SpawnStmt}, api.OWhen: {api.WhenStmt}, api.OEach: {api.EachStmt}, api.OAll: {api.AllStmt}, api.ODone: {api.AllStmt},
		api.OFreeze: {api.FreezeStmt}, api.OSize: {api.SizeNode}, api.OHas: {api.HasNode}, api.OValue: {api.ValueNode}, api.OJump: {api.WhenStmt, api.IfStmt}, api.OZero: {api.IfStmt}, api.ONote: {api.LetStmt, api.IfStmt},
		api.OFail: {api.FailStmt}, api.OHalt: {api.TaskItem, api.EachStmt},
	}
	met := map[[2]uint8]bool{}
	for _, u := range testModules(t) {
		c, homes := mustCompile(t, u), mustHomes(t, u)
		for i, l := range mustOrigins(t, u) {
			if len(l) != len(c.Segments[i].Ins) {
				t.Fatalf("Origins of %d: %v of\n%s", i, l, mustPrint(t, u))
			}
			for at, node := range l {
				op := c.Segments[i].Ins[at].Op
				if !slices.Contains(kinds[op], u.Nodes[node].Kind) || node < homes[i] || node >= homes[i]+u.Nodes[homes[i]].Size {
					t.Fatalf("Origins of %d: %d at %d of\n%s", i, node, at, mustPrint(t, u))
				}
				met[[2]uint8{op, u.Nodes[node].Kind}] = true
			}
		}
	}
	for op, l := range kinds {
		for _, kind := range l {
			if !met[[2]uint8{op, kind}] {
				t.Errorf("no instruction with the operation %d stands for a node of the kind %d", op, kind)
			}
		}
	}
}

// P8.5: Text returns the text of the code of a text's module.
func TestText(t *testing.T) {
	for _, u := range testModules(t)[:200] {
		s := mustPrint(t, u)
		if s == "" && len(u.Nodes) > 1 {
			// Printed it has too many bytes.
			continue
		}
		got, at, e := compile.Text(s)
		if want := mustText(t, mustCompile(t, u)); got != want || at != 0 || e != api.OK {
			t.Fatalf("Text: %s, %d, %v, and not %s of\n%s", got, at, e, want, s)
		}
		if c, e := code.Parse(got); e != api.OK || !same(c, mustCompile(t, u)) {
			t.Fatalf("Parse: %v of\n%s", e, got)
		}
	}
	if s, at, e := compile.Text(""); s != "" || at != 0 || e != api.OK {
		t.Errorf("Text of nothing: %q, %d, %v", s, at, e)
	}
}
