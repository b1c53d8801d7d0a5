package compile_test

import (
	"slices"
	"strconv"
	"strings"
	"testing"

	"dripstone/api"
	"dripstone/compile"
)

// numbered returns so many texts, each with its number where a # stands, with something between.
func numbered(n int, s, between string) string {
	var l []string
	for i := range n {
		l = append(l, strings.ReplaceAll(s, "#", strconv.Itoa(i)))
	}
	return strings.Join(l, between)
}

// nested returns statements in blocks of eleven, each in the one before.
func nested(stmts []string) string {
	if len(stmts) <= api.MaxStmts {
		return strings.Join(stmts, " ")
	}
	return strings.Join(stmts[:api.MaxStmts-1], " ") + " if 1 { " + nested(stmts[api.MaxStmts-1:]) + " }"
}

// shapeUses returns uses with so many different shapes.
func shapeUses(n int) string {
	plain := []string{"flag", "max", "set", "once"}
	all := slices.Clone(plain)
	for _, a := range plain {
		all = append(all, "map("+a+")")
		for _, b := range plain {
			all = append(all, "pair("+a+", "+b+")")
		}
	}
	for _, a := range plain {
		for _, b := range plain {
			all = append(all, "pair(map("+a+"), "+b+")")
		}
	}
	all = append(all, "map(map(max))", "map(map(set))")
	out := ""
	for i, l := range slices.Collect(slices.Chunk(all[:n], api.MaxParams)) {
		out += "use f" + strconv.Itoa(i) + "(" + strings.Join(l, ", ") + "); "
	}
	return out
}

// lets returns a task with so many declarations that are known at once.
func lets(n int) string {
	return "task f() { " + nested(strings.Split(numbered(n, "let a# = 1;", "|"), "|")) + " }"
}

// caught returns a task with an EachStmt with so many params.
func caught(n int) string {
	// The variable and the key are params, too.
	n -= 2
	var puts []string
	for _, l := range slices.Collect(slices.Chunk(strings.Split(numbered(n, "a#", "|"), "|"), api.MaxPoint)) {
		puts = append(puts, "put x {"+strings.Join(l, ", ")+"};")
	}
	return "task f() { new x: set; if 1 { " + nested(append(strings.Split(numbered(n, "let a# = #;", "|"), "|"), "all { each x as k { "+strings.Join(puts, " ")+" } }")) + " } }"
}

// eachs returns a task with so many EachStmts.
func eachs(n int) string {
	l := strings.Split(numbered(n, "each x as a# { }", "|"), "|")
	out := "task f() { new x: set; "
	for _, some := range slices.Collect(slices.Chunk(l, api.MaxStmts)) {
		out += "all { " + strings.Join(some, " ") + " } "
	}
	return out + "}"
}

// pools returns a task with so many pools one in the other.
func pools(n int) string {
	return "task f() { " + strings.Repeat("all { ", n) + strings.Repeat("} ", n) + "}"
}

// P8.1: as much as there may be, and too much, of all that code can have too much of. (Of instructions a tree has never too many.)
func TestLimits(t *testing.T) {
	most := func(c api.Code, of func(s api.Segment) int) int {
		out := 0
		for _, s := range c.Segments {
			out = max(out, of(s))
		}
		return out
	}
	for _, x := range []struct {
		name string
		text func(n int) string
		most int
		of   func(c api.Code) int
	}{
		{"shapes", shapeUses, api.MaxShapes, func(c api.Code) int { return len(c.Shapes) }},
		{"registers", lets, api.MaxRegs, func(c api.Code) int { return most(c, func(s api.Segment) int { return s.Regs }) }},
		{"intermediate results", func(n int) string { return lets(n-1) + " task g() { fail 1; }" }, api.MaxRegs + 1, nil},
		{"parameters", caught, api.MaxArgs, func(c api.Code) int { return most(c, func(s api.Segment) int { return len(s.Params) }) }},
		{"segments", func(n int) string { return eachs(n - 1) }, api.MaxSegments, func(c api.Code) int { return len(c.Segments) }},
		{"segments of several tasks", func(n int) string { return eachs(n-3) + " task g() { } use h(); task i() { }" }, api.MaxSegments, func(c api.Code) int { return len(c.Segments) }},
		{"pools", pools, api.MaxPools, nil},
	} {
		u := mustModule(t, x.text(x.most))
		c := mustCompile(t, u)
		if got := mustText(t, c); got != read(u).text() {
			t.Errorf("%d %s: %s", x.most, x.name, got)
		}
		if x.of != nil && x.of(c) != x.most {
			t.Errorf("%d %s, and not %d", x.of(c), x.name, x.most)
		}
		if _, e := compile.Origins(u); e != api.OK {
			t.Errorf("Origins with %d %s: %v", x.most, x.name, e)
		}
		tooMuch(t, x.name, x.text(x.most+1))
	}
}

// tooMuch tests a module of which there is no code: it has shapes, homes, segments and registers all the same.
func tooMuch(t *testing.T, name, s string) {
	t.Helper()
	u := mustModule(t, s)
	want := read(u)
	if c, e := compile.Compile(u); e != api.ErrLimit || !same(c, api.Code{}) {
		t.Errorf("too many %s: Compile: %v, %v", name, c, e)
	}
	if l, e := compile.Origins(u); e != api.ErrLimit || len(l) > 0 {
		t.Errorf("too many %s: Origins: %v, %v", name, l, e)
	}
	if got, at, e := compile.Text(s); e != api.ErrLimit || at != 0 || got != "" {
		t.Errorf("too many %s: Text: %q, %d, %v", name, got, at, e)
	}
	if l, e := compile.Shapes(u); e != api.OK || len(l) != len(want.shapes) {
		t.Errorf("too many %s: Shapes: %v, %v", name, l, e)
	}
	for i, home := range mustHomes(t, u) {
		h := want.homes[i]
		if got := segmentText(mustSegment(t, u, home)); got != h.text() {
			t.Errorf("too many %s: Segment: %s, and not %s", name, got, h.text())
		}
		for node, reg := range mustRegisters(t, u, home) {
			if known, ok := h.known[node]; ok && reg != known || !ok && reg != -1 {
				t.Errorf("too many %s: Registers: the node %d has %d", name, node, reg)
			}
		}
	}
	for _, node := range []int{-1, 0, 2, len(u.Nodes)} {
		if _, e := compile.Segment(u, node); e != api.ErrNone {
			t.Errorf("too many %s: Segment of %d: %v", name, node, e)
		}
		if _, e := compile.Registers(u, node); e != api.ErrNone {
			t.Errorf("too many %s: Registers of %d: %v", name, node, e)
		}
	}
}

// Pools in an EachStmt are in those of another segment.
func TestPoolsOfSegments(t *testing.T) {
	s := "task f() { new x: set; " + strings.Repeat("all { ", 6) + "each x as k { " + strings.Repeat("all { ", 5) + strings.Repeat("} ", 6+5+1) + "}"
	mustCompile(t, mustModule(t, s))
	// A pool that is not begun counts as well.
	s = "task f() { fail 1; " + strings.Repeat("all { ", 12) + strings.Repeat("} ", 13)
	mustCompile(t, mustModule(t, s))
}

// Instructions to which no way leads need not keep the rules of pools.
func TestNotReached(t *testing.T) {
	s := "task f() { fail 1; " + strings.Repeat("all { ", 13) + strings.Repeat("} ", 14)
	u := mustModule(t, s)
	c := mustCompile(t, u)
	if len(c.Segments[0].Ins) != 2+26+1 {
		t.Errorf("Compile: %v", c)
	}
}

// tree returns the nodes of one with kids.
func tree(n api.TreeNode, kids ...[]api.TreeNode) []api.TreeNode {
	out := slices.Concat(append([][]api.TreeNode{{n}}, kids...)...)
	out[0].Size = len(out)
	return out
}

// A module with as many nodes as there may be, nearly all of which become two instructions: its text would be too long.
func TestManyInstructions(t *testing.T) {
	var numbers, pools [][]api.TreeNode
	for n := range api.MaxPoint {
		numbers = append(numbers, tree(api.TreeNode{Kind: api.NumNode, N: n}))
	}
	put := tree(api.TreeNode{Kind: api.PutStmt, Text: "x"}, tree(api.TreeNode{Kind: api.SetPoint}, numbers...))
	for left := 96; left > 0; left -= api.MaxStmts {
		pools = append(pools, tree(api.TreeNode{Kind: api.AllStmt}, tree(api.TreeNode{Kind: api.BlockNode}, slices.Repeat([][]api.TreeNode{put}, api.MaxStmts)...)))
	}
	param := tree(api.TreeNode{Kind: api.ParamNode, Text: "x"}, tree(api.TreeNode{Kind: api.SetType}))
	u := api.Tree{Nodes: tree(api.TreeNode{Kind: api.ProgramNode}, tree(api.TreeNode{Kind: api.TaskItem, Text: "f"}, param, tree(api.TreeNode{Kind: api.BlockNode}, pools...)))}
	c := mustCompile(t, u)
	if n := len(c.Segments[0].Ins); n != 96*12+2*8+1 || len(u.Nodes) != 96*6+2*8+5 || c.Segments[0].Regs != 3 {
		t.Errorf("%d instructions of %d nodes", n, len(u.Nodes))
	}
	if got, want := mustText(t, c), read(u).text(); got != want {
		t.Errorf("Compile: %s, and not %s", got, want)
	}
}

// The greatest numbers.
func TestGreatest(t *testing.T) {
	got := body(t, "task f(x: map(max)) { put x [-1000000000] 1000000000; }")
	if !slices.Equal(got, lines("int r1 -1000000000; int r2 1000000000; point r2 s1 r2; key r1 s0 r1 r2; put r0 r1")) {
		t.Errorf("Text: %v", got)
	}
}
