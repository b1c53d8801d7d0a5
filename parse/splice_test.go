package parse_test

import (
	"math"
	"slices"
	"testing"

	"dripstone/api"
	"dripstone/parse"
)

// P2.7, P2.12: Sub and Splice, of each node of some trees.
func TestSubAndSplice(t *testing.T) {
	for _, s := range append(randomTexts(14, 60), wholeText, "") {
		x := mustParse(t, s)
		for node, n := range x.Nodes {
			sub, e := parse.Sub(x, node)
			if !slices.Equal(sub, x.Nodes[node:node+n.Size]) || e != api.OK {
				t.Fatalf("Sub of %d of %q: %v, %v", node, s, sub, e)
			}
			if y, e := parse.Splice(x, node, sub); !slices.Equal(y.Nodes, x.Nodes) || e != api.OK {
				t.Fatalf("Splice of Sub of %d of %q: %v, %v", node, s, y, e)
			}
			if node == 0 {
				continue
			}
			for _, kind := range []uint8{api.UseItem, api.TaskItem, api.AboveNode, api.ParamNode, api.BlockNode, api.MapType, api.AllStmt, api.PutStmt, api.KeyPoint, api.NegNode} {
				by := least(kind)
				y, e := parse.Splice(x, node, by)
				want := put(x.Nodes, node, n.Size, by)
				if f := parse.Check(api.Tree{Nodes: want}); f != api.OK {
					if y.Nodes != nil || e != f {
						t.Fatalf("Splice of a %s at %d of %q: %v, not %v", kindName(kind), node, s, e, f)
					}
					continue
				}
				if !slices.Equal(y.Nodes, want) || e != api.OK {
					t.Fatalf("Splice of a %s at %d of %q: %v, %v", kindName(kind), node, s, y, e)
				}
				if z, e := parse.Splice(y, node, sub); !slices.Equal(z.Nodes, x.Nodes) || e != api.OK {
					t.Fatalf("Splice of a %s at %d of %q, and back: %v, %v", kindName(kind), node, s, z, e)
				}
			}
		}
	}
}

// P2.7: what stands there can be several nodes, none, or all; and the limits.
func TestSplice(t *testing.T) {
	x := mustParse(t, "task f() { fail 1; fail 2; }")
	all := slices.Concat(least(api.AllStmt), least(api.FailStmt))
	for _, c := range []struct {
		node int
		by   []api.TreeNode
		want string
	}{
		{3, all, "task f() { all { } fail 0; fail 2; }"}, {5, nil, "task f() { fail 1; }"}, {3, []api.TreeNode{}, "task f() { fail 2; }"}, {1, nil, ""}, {1, slices.Concat(least(api.UseItem), least(api.UseItem)), "use a(); use a();"},
		{0, least(api.ProgramNode), ""}, {2, slices.Concat(least(api.ParamNode), least(api.BlockNode)), "task f(a: int) { }"}, {6, mustParse(t, "task f() { fail -(1 + 2); }").Nodes[4:], "task f() { fail 1; fail -(1 + 2); }"},
	} {
		y, e := parse.Splice(x, c.node, c.by)
		if e != api.OK || !same(y, mustParse(t, c.want)) {
			t.Errorf("Splice at %d: %s, %v, not %s", c.node, outline(y.Nodes), e, c.want)
		}
	}
	big, deep := api.Tree{Nodes: wideTree(t, 600)}, api.Tree{Nodes: deepTree(30)}
	neg := func(n int) []api.TreeNode { return deepTree(n + 5)[4:] }
	wrong := make([]api.TreeNode, 600)
	for i, c := range []struct {
		x    api.Tree
		node int
		by   []api.TreeNode
		want api.Errno
	}{
		{x, 0, nil, api.ErrForm}, {x, 2, nil, api.ErrForm}, {x, 4, nil, api.ErrForm}, {x, 3, least(api.TaskItem), api.ErrForm}, {x, 3, []api.TreeNode{{Kind: api.FailStmt, Size: 2}}, api.ErrForm}, {x, 4, []api.TreeNode{{Kind: api.NumNode, Size: math.MaxInt}}, api.ErrForm}, {x, 4, []api.TreeNode{{Kind: api.NumNode, Size: math.MinInt}}, api.ErrForm}, {x, 4, []api.TreeNode{{Kind: api.NumNode, Size: 2}}, api.ErrForm},
		{x, 4, []api.TreeNode{{Kind: api.NumNode, At: api.MaxText, Size: 1}}, api.OK}, {x, 4, []api.TreeNode{{Kind: api.NumNode, At: api.MaxText + 1, Size: 1}}, api.ErrForm},
		// More than may stand there; a new tree with too many nodes; its form; its depth.
		{x, 3, make([]api.TreeNode, 601), api.ErrLimit}, {x, 3, wrong, api.ErrLimit}, {x, 0, wrong, api.ErrForm}, {x, 0, big.Nodes, api.OK}, {x, 0, append(slices.Clone(big.Nodes), api.TreeNode{}), api.ErrLimit},
		{big, 599, least(api.NumNode), api.OK}, {big, 599, neg(1), api.ErrLimit}, {big, 599, nil, api.ErrForm},
		{deep, 4, neg(25), api.OK}, {deep, 4, neg(26), api.ErrLimit}, {deep, 4, append(neg(26), api.TreeNode{}), api.ErrForm},
	} {
		y, e := parse.Splice(c.x, c.node, c.by)
		if e != c.want || e != api.OK && y.Nodes != nil {
			t.Errorf("%d: Splice: %v, %v, not %v", i, outline(y.Nodes), e, c.want)
		}
	}
	if _, e := parse.Splice(x, 7, make([]api.TreeNode, 601)); e != api.ErrNone {
		t.Errorf("Splice at no node: %v", e)
	}
}

// P2.8: trees that differ in one thing, and errors.
func TestSame(t *testing.T) {
	text := "lattice a { b; c }\ntask f(n: int) { if n { fail 1; } put x pair(n, ); }"
	x := mustParse(t, text)
	compare := func(a, b api.Tree, want bool, error api.Errno) {
		t.Helper()
		if is, e := parse.Same(a, b); is != want || e != error {
			t.Errorf("Same of %s and %s: %v, %v", outline(a.Nodes), outline(b.Nodes), is, e)
		}
	}
	compare(x, x, true, api.OK)
	compare(x, mustParse(t, "% other places\n"+text), true, api.OK)
	compare(mustParse(t, ""), api.Tree{Nodes: []api.TreeNode{{Kind: api.ProgramNode, At: 7, Size: 1}}}, true, api.OK)
	for _, other := range []string{
		"", "lattice a { b; c }", "lattice a { b; d } task f(n: int) { if n { fail 1; } put x pair(n, ); }", "lattice a { b; c! } task f(n: int) { if n { fail 1; } put x pair(n, ); }", "lattice a { b: c; c } task f(n: int) { if n { fail 1; } put x pair(n, ); }",
		"lattice a { b; c } task f(n: int) { if n { fail 2; } put x pair(n, ); }", "lattice a { b; c } task f(n: int) { if n { fail 1; } put x pair(, n); }", "lattice a { b; c } task f(n: max) { if n { fail 1; } put x pair(n, ); }", "lattice a { b; c } task f(n: int) { if n { } fail 1; put x pair(n, ); }", text + " use g();",
	} {
		compare(x, mustParse(t, other), false, api.OK)
		compare(mustParse(t, other), x, false, api.OK)
	}
	// Trees that differ but for their Sizes in nothing.
	compare(mustParse(t, "task f() { if 1 { all { } fail 2; } }"), mustParse(t, "task f() { if 1 { all { fail 2; } } }"), false, api.OK)
	wrong, big := api.Tree{Nodes: x.Nodes[:4]}, api.Tree{Nodes: wideTree(t, 601)}
	compare(wrong, x, false, api.ErrForm)
	compare(x, wrong, false, api.ErrForm)
	compare(wrong, big, false, api.ErrForm)
	compare(big, wrong, false, api.ErrLimit)
	compare(x, big, false, api.ErrLimit)
	compare(api.Tree{}, api.Tree{}, false, api.ErrForm)
}

// R4: no argument is changed, nor what lies behind its end, and results share no memory with it.
func TestArgumentsStay(t *testing.T) {
	other := api.TreeNode{Kind: 99, Text: "other", Size: 7}
	roomy := func(nodes []api.TreeNode) ([]api.TreeNode, func()) {
		room := append(append(make([]api.TreeNode, 0, len(nodes)+5), nodes...), other, other, other, other, other)
		return room[:len(nodes)], func() {
			t.Helper()
			if !slices.Equal(room[:len(nodes)], nodes) || slices.ContainsFunc(room[len(nodes):], func(n api.TreeNode) bool { return n != other }) {
				t.Errorf("an argument is changed: %v", room)
			}
		}
	}
	nodes, same := roomy(mustParse(t, wholeText).Nodes)
	by, stays := roomy(slices.Concat(least(api.AllStmt), least(api.FailStmt)))
	x := api.Tree{Nodes: nodes}
	stmt := slices.IndexFunc(nodes, func(n api.TreeNode) bool { return n.Kind == api.LetStmt })
	for range 2 {
		parse.Check(x)
		parse.Print(x)
		parse.Show(x, stmt)
		parse.Same(x, x)
		kids, _ := parse.Kids(x, 0)
		path, _ := parse.Path(x, stmt)
		before := slices.Clone(path)
		parse.Up(x, stmt)
		parse.Node(x, path)
		if !slices.Equal(path, before) {
			t.Errorf("Node changes a path: %v", path)
		}
		sub, _ := parse.Sub(x, stmt)
		y, e := parse.Splice(x, stmt, by)
		if e != api.OK {
			t.Fatalf("Splice: %v", e)
		}
		same()
		stays()
		// What is done to the results is not done to the arguments.
		clear(kids)
		clear(path)
		for _, l := range [][]api.TreeNode{sub[:cap(sub)], y.Nodes[:cap(y.Nodes)]} {
			for i := range l {
				l[i] = api.TreeNode{}
			}
		}
		same()
		stays()
	}
}
