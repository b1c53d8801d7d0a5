package check_test

import (
	"reflect"
	"slices"
	"testing"

	"dripstone/api"
	"dripstone/check"
	"dripstone/parse"
)

// answer is what a function returned: its results, and its error.
type answer struct {
	got any
	e   api.Errno
}

// empty says whether all results are zero values.
func (x answer) empty() bool {
	v := reflect.ValueOf(x.got)
	return v.IsZero() || v.Kind() == reflect.Slice && v.Len() == 0
}

// answers returns what all functions return, with a node or the number of an item for those that want one.
func answers(u api.Tree, node int) map[string]answer {
	out := map[string]answer{}
	add := func(name string, got any, e api.Errno) { out[name] = answer{got, e} }
	var e api.Errno
	var n int
	n, e = check.Module(u)
	add("Module", n, e)
	n, e = check.Program(u)
	add("Program", n, e)
	var notes api.Notes
	notes, e = check.Look(u)
	add("Look", notes, e)
	var tables []api.Table
	tables, e = check.Tables(u)
	add("Tables", tables, e)
	var shape api.Shape
	shape, e = check.Shape(u, node)
	add("Shape", shape, e)
	var l []int
	l, e = check.Sight(u, node)
	add("Sight", l, e)
	l, e = check.Sites(u, node)
	add("Sites", l, e)
	l, e = check.Captures(u, node)
	add("Captures", l, e)
	l, e = check.Passes(u, node)
	add("Passes", l, e)
	var points []api.Elem
	points, e = check.Points(u, node)
	add("Points", points, e)
	var effects []api.Effect
	effects, e = check.Effects(u)
	add("Effects", effects, e)
	return out
}

// Those of parse.Check come first: then all results are zero values, and so is the node.
func TestTreeErrors(t *testing.T) {
	whole := mustParse(t, exampleText)
	odd := func(change func(l []api.TreeNode)) api.Tree {
		l := slices.Clone(whole.Nodes)
		change(l)
		return api.Tree{Nodes: l}
	}
	deep := api.Tree{}
	for range api.MaxDeep + 2 {
		deep.Nodes = append(deep.Nodes, api.TreeNode{Kind: api.NegNode})
	}
	deep.Nodes[len(deep.Nodes)-1].Kind = api.NumNode
	for i, kind := range []uint8{api.ProgramNode, api.TaskItem, api.BlockNode, api.FailStmt} {
		deep.Nodes[i].Kind = kind
	}
	deep.Nodes[1].Text = "f"
	for i := range deep.Nodes {
		deep.Nodes[i].Size = len(deep.Nodes) - i
	}
	for _, x := range []struct {
		u    api.Tree
		want api.Errno
	}{
		{api.Tree{}, api.ErrForm},
		{api.Tree{Nodes: make([]api.TreeNode, api.MaxNodes)}, api.ErrForm},
		{api.Tree{Nodes: make([]api.TreeNode, api.MaxNodes+1)}, api.ErrLimit},
		{deep, api.ErrLimit},
		{odd(func(l []api.TreeNode) { l[0].Kind = 0 }), api.ErrForm},
		{odd(func(l []api.TreeNode) { l[1].Size = -1 }), api.ErrForm},
		{odd(func(l []api.TreeNode) { l[1].Text = "flag" }), api.ErrForm},
		{odd(func(l []api.TreeNode) { l[2].Text = "" }), api.ErrForm},
		{odd(func(l []api.TreeNode) { l[3].N = 1 }), api.ErrForm},
		{odd(func(l []api.TreeNode) { l[3].At = api.MaxText + 1 }), api.ErrForm},
		{odd(func(l []api.TreeNode) { l[5].Kind = 200 }), api.ErrForm},
		{odd(func(l []api.TreeNode) { l[5].Kind, l[5].Text = api.NumNode, "" }), api.ErrForm},
		{api.Tree{Nodes: whole.Nodes[1:]}, api.ErrForm},
		{api.Tree{Nodes: whole.Nodes[:20]}, api.ErrForm},
	} {
		if e := parse.Check(x.u); e != x.want {
			t.Fatalf("parse.Check of %v: %v, and not %v", x.u, e, x.want)
		}
		for _, node := range []int{0, 1, -1, 1000} {
			for name, a := range answers(x.u, node) {
				if a.e != x.want || !a.empty() {
					t.Errorf("%s of a tree with %d nodes: %v", name, len(x.u.Nodes), a)
				}
			}
		}
	}
}

// Those of a module come before those that are named for a function; all but the node is a zero value then.
func TestModuleErrors(t *testing.T) {
	for _, s := range []string{
		"task main() { fail x; }",
		"use main(); use main();",
		"lattice l { a: a }",
		tables(9),
		"task main(x: map(map(map(map(set))))) { }",
		"task main(n: int) { put n 1; }",
		"task f(x: set) { freeze x as y; }",
		"task f(x: max) { when x 1 { } or 2 { } }",
	} {
		u := mustParse(t, s)
		node, want := check.Module(u)
		if want == api.OK {
			t.Fatalf("Module of %q has no error", s)
		}
		for at := -1; at <= len(u.Nodes); at++ {
			for name, a := range answers(u, at) {
				isNode := name == "Module" || name == "Program"
				if a.e != want || isNode && a.got != node || !isNode && !a.empty() {
					t.Errorf("%s of %q, %d: %v", name, s, at, a)
				}
			}
		}
	}
}

// P5.3 to P5.6: the errors of nodes and items.
func TestNodeErrors(t *testing.T) {
	among := func(kinds ...uint8) func(n api.TreeNode) bool {
		return func(n api.TreeNode) bool { return slices.Contains(kinds, n.Kind) }
	}
	between := func(n api.TreeNode, from, to uint8) bool { return n.Kind >= from && n.Kind <= to }
	takes := map[string]func(n api.TreeNode) bool{
		"Shape": func(n api.TreeNode) bool { return between(n, api.FlagType, api.PairType) },
		"Sight": func(n api.TreeNode) bool {
			return between(n, api.NewStmt, api.FailStmt) || between(n, api.EqNode, api.ValueNode)
		},
		"Captures": among(api.EachStmt),
		"Passes":   among(api.EachStmt, api.FreezeStmt),
		"Points":   among(api.WhenStmt, api.PutStmt),
	}
	u := mustParse(t, wholeText+"task last(x: set, n: int) { when x {n} { } put x {n}; }")
	fails := 0
	for _, node := range append([]int{-1 << 63, -1, len(u.Nodes), len(u.Nodes) + 1, 1<<63 - 1}, allNodes(u)...) {
		all := answers(u, node)
		for name, right := range takes {
			a := all[name]
			is := node >= 0 && node < len(u.Nodes) && right(u.Nodes[node])
			switch {
			case !is && (a.e != api.ErrNone || !a.empty()):
				t.Errorf("%s of %d: %v", name, node, a)
			case is && a.e != api.OK && name != "Points":
				t.Errorf("%s of %s: %v", name, nodeName(u, node), a)
			case is && name == "Points" && a.e == api.ErrState:
				fails++
			}
		}
		if a := all["Sites"]; (node == 2 || node == 3 || node == 4) != (a.e == api.OK) || a.e != api.OK && (a.e != api.ErrNone || !a.empty()) {
			t.Errorf("Sites of %d: %v", node, a)
		}
	}
	if fails != 4 { // two of wholeText, two behind it
		t.Errorf("Points: ErrState %d times", fails)
	}
}

// allNodes returns all nodes of a tree.
func allNodes(u api.Tree) []int {
	var out []int
	for node := range u.Nodes {
		out = append(out, node)
	}
	return out
}

// P2, R4: equal results for equal arguments, in new memory; arguments stay as they are, and so does what lies behind their ends.
func TestMemory(t *testing.T) {
	for _, s := range []string{exampleText, wholeText} {
		u := mustParse(t, s)
		room := append(slices.Clone(u.Nodes), api.TreeNode{Text: "behind"})
		given := api.Tree{Nodes: room[:len(u.Nodes)]}
		for node := range u.Nodes {
			want := answers(u, node)
			for _, a := range answers(given, node) {
				spoil(reflect.ValueOf(a.got))
			}
			if got := answers(given, node); !reflect.DeepEqual(got, want) {
				t.Fatalf("of %d of %q: %v, and then %v", node, s, want, got)
			}
			if !slices.Equal(given.Nodes, u.Nodes) || room[len(u.Nodes)].Text != "behind" {
				t.Fatalf("of %d of %q: the tree has changed", node, s)
			}
		}
	}
}

// spoil changes all numbers, bools and texts in the lists of a result, and in the spare room of these.
func spoil(v reflect.Value) {
	switch v.Kind() {
	case reflect.Struct:
		for i := range v.NumField() {
			spoil(v.Field(i))
		}
	case reflect.Slice:
		v = v.Slice(0, v.Cap())
		for i := range v.Len() {
			spoil(v.Index(i))
		}
	case reflect.Int:
		if v.CanSet() {
			v.SetInt(v.Int() + 77)
		}
	case reflect.Uint8:
		if v.CanSet() {
			v.SetUint(v.Uint() + 7)
		}
	case reflect.Bool:
		if v.CanSet() {
			v.SetBool(!v.Bool())
		}
	case reflect.String:
		if v.CanSet() {
			v.SetString(v.String() + "x")
		}
	}
}

// No two lists of one result share memory.
func TestApart(t *testing.T) {
	u := mustParse(t, wholeText)
	notes := mustLook(t, u)
	tables, _ := check.Tables(u)
	effects := mustEffects(t, u)
	var points []api.Elem
	for _, node := range ofKind(u, api.WhenStmt) {
		points, _ = check.Points(u, node)
	}
	for _, got := range []any{notes, tables, effects, points} {
		met := map[uintptr]bool{}
		apart(t, reflect.ValueOf(got), met)
	}
}

// apart goes through the lists of a result, and tells if some elements of them, or of their spare room, were met before.
func apart(t *testing.T, v reflect.Value, met map[uintptr]bool) {
	t.Helper()
	switch v.Kind() {
	case reflect.Struct:
		for i := range v.NumField() {
			apart(t, v.Field(i), met)
		}
	case reflect.Slice:
		v = v.Slice(0, v.Cap())
		for i := range v.Len() {
			at := v.Index(i).Addr().Pointer()
			if v.Index(i).Type().Size() > 0 && met[at] {
				t.Errorf("two lists of one result share memory")
			}
			met[at] = true
		}
		for i := range v.Len() {
			apart(t, v.Index(i), met)
		}
	}
}
