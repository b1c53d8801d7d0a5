package parse_test

import (
	"math"
	"math/rand"
	"regexp"
	"slices"
	"strings"
	"testing"

	"dripstone/api"
	"dripstone/parse"
)

// letter returns what stands for a kind in rows of kids.
func letter(kind uint8) string {
	switch {
	case kind >= api.LatticeItem && kind <= api.TaskItem:
		return "i"
	case kind >= api.FlagType && kind <= api.PairType:
		return "s"
	case kind >= api.NewStmt && kind <= api.FailStmt:
		return "t"
	case kind >= api.OnPoint && kind <= api.PairPoint:
		return "o"
	case kind >= api.EqNode && kind <= api.ValueNode:
		return "x"
	}
	if s, ok := map[uint8]string{api.ElemNode: "e", api.AboveNode: "a", api.ParamNode: "p", api.BindNode: "n", api.BlockNode: "b", api.CaseNode: "c", api.IntType: "I"}[kind]; ok {
		return s
	}
	return "?"
}

// form is what nodes of a kind must be like.
type form struct {
	kind uint8
	text bool
	n    [2]int
	kids string
}

// forms has all kinds; those of nodes with another N have a row each.
func forms() []form {
	var none [2]int
	out := []form{
		{api.ProgramNode, false, none, "i{0,16}"}, {api.LatticeItem, true, none, "e{1,12}"}, {api.UseItem, true, none, "[Is]{0,5}"}, {api.TaskItem, true, none, "p{0,5}b"}, {api.ElemNode, true, [2]int{0, 1}, "a{0,12}"},
		{api.AboveNode, true, none, ""}, {api.ParamNode, true, none, "[Is]"}, {api.BindNode, true, none, ""}, {api.BlockNode, false, none, "t{0,12}"}, {api.CaseNode, false, none, "ob"},
		{api.IntType, false, none, ""}, {api.FlagType, false, none, ""}, {api.MaxType, false, none, ""}, {api.SetType, false, none, ""}, {api.OnceType, false, none, ""}, {api.NamedType, true, none, ""}, {api.MapType, false, none, "s"}, {api.PairType, false, none, "ss"},
		{api.NewStmt, true, none, "s"}, {api.ShareStmt, true, none, "s"}, {api.LetStmt, true, none, "x"}, {api.PutStmt, true, none, "o"}, {api.SpawnStmt, true, none, "x{0,5}"}, {api.WhenStmt, true, none, "c{1,4}"}, {api.EachStmt, true, none, "nb"},
		{api.AllStmt, false, none, "b"}, {api.FreezeStmt, true, none, "n"}, {api.IfStmt, false, none, "xbb?"}, {api.FailStmt, false, none, "x"},
		{api.OnPoint, false, none, ""}, {api.IntPoint, false, none, "x"}, {api.SetPoint, false, none, "x{1,4}"}, {api.NamePoint, true, none, ""}, {api.KeyPoint, false, none, "xo"}, {api.PairPoint, false, [2]int{1, 2}, "o"}, {api.PairPoint, false, [2]int{3, 3}, "oo"},
		{api.NegNode, false, none, "x"}, {api.NumNode, false, [2]int{0, 1000000000}, ""}, {api.NameNode, true, none, ""}, {api.SizeNode, true, none, ""}, {api.HasNode, true, none, "x"}, {api.ValueNode, true, none, "x"},
	}
	for kind := api.EqNode; kind <= api.DivNode; kind++ {
		out = append(out, form{kind, false, none, "xx"})
	}
	return out
}

// checker says which trees have their form, as forms has it.
type checker struct {
	forms map[uint8][]form
	kids  map[string]*regexp.Regexp
	name  *regexp.Regexp
}

// newChecker returns a checker.
func newChecker() checker {
	c := checker{map[uint8][]form{}, map[string]*regexp.Regexp{}, regexp.MustCompile("^[a-z][a-z0-9]{0,11}$")}
	for _, f := range forms() {
		c.forms[f.kind] = append(c.forms[f.kind], f)
		c.kids[f.kids] = regexp.MustCompile("^(?:" + f.kids + ")$")
	}
	return c
}

// right says whether the form of a tree is right.
func (c checker) right(nodes []api.TreeNode) bool {
	var whole func(nodes []api.TreeNode) bool
	whole = func(nodes []api.TreeNode) bool {
		n := nodes[0]
		if n.Size != len(nodes) || n.At < 0 || n.At > 2500 {
			return false
		}
		kids := ""
		for at := 1; at < n.Size; at += nodes[at].Size {
			size := nodes[at].Size
			if size < 1 || size > n.Size-at || !whole(nodes[at:at+size]) {
				return false
			}
			kids += letter(nodes[at].Kind)
		}
		return slices.ContainsFunc(c.forms[n.Kind], func(f form) bool {
			if f.text && (!c.name.MatchString(n.Text) || slices.Contains(api.Keywords(), n.Text)) || !f.text && n.Text != "" {
				return false
			}
			return n.N >= f.n[0] && n.N <= f.n[1] && c.kids[f.kids].MatchString(kids)
		})
	}
	return len(nodes) > 0 && nodes[0].Kind == api.ProgramNode && whole(nodes)
}

// least returns a smallest part of a tree whose first node has a kind.
func least(kind uint8) []api.TreeNode {
	var out []api.TreeNode
	add := func(k uint8, text string, n, size int) {
		out = append(out, api.TreeNode{Kind: k, Text: text, N: n, Size: size})
	}
	kids := func(parts ...[]api.TreeNode) {
		out = slices.Concat(append([][]api.TreeNode{out}, parts...)...)
		out[0].Size = len(out)
	}
	i := slices.IndexFunc(forms(), func(f form) bool { return f.kind == kind })
	if i < 0 {
		return []api.TreeNode{{Kind: kind, Size: 1}}
	}
	f := forms()[i]
	text := ""
	if f.text {
		text = "a"
	}
	add(kind, text, f.n[0], 1)
	first := map[byte]uint8{'e': api.ElemNode, 'I': api.IntType, 's': api.FlagType, 'p': api.ParamNode, 'b': api.BlockNode, 'c': api.CaseNode, 'o': api.OnPoint, 'x': api.NumNode, 'n': api.BindNode}
	row := strings.NewReplacer("[Is]{0,5}", "", "[Is]", "I", "b?", "", "e{1,12}", "e", "c{1,4}", "c", "x{1,4}", "x", "i{0,16}", "", "p{0,5}", "", "t{0,12}", "", "a{0,12}", "", "x{0,5}", "").Replace(f.kids)
	for i := range len(row) {
		kids(least(first[row[i]]))
	}
	return out
}

// wrongs yields trees that differ from a tree in one thing.
func wrongs(x api.Tree, yield func(nodes []api.TreeNode)) {
	change := func(node int, f func(n *api.TreeNode)) {
		nodes := slices.Clone(x.Nodes)
		f(&nodes[node])
		yield(nodes)
	}
	for node, n := range x.Nodes {
		for kind := range 80 {
			change(node, func(n *api.TreeNode) { n.Kind = uint8(kind) })
		}
		change(node, func(n *api.TreeNode) { n.Kind = 255 })
		for _, size := range []int{n.Size - 1, n.Size + 1, 0, -1, 1, len(x.Nodes) - node, len(x.Nodes), math.MaxInt, math.MinInt} {
			change(node, func(n *api.TreeNode) { n.Size = size })
		}
		for _, k := range []int{-1, 0, 1, 2, 3, 4, 1000000000, 1000000001, math.MaxInt, math.MinInt} {
			change(node, func(n *api.TreeNode) { n.N = k })
		}
		for _, text := range []string{"", "a", "z9", "task", "when", "abcdefghijkl", "abcdefghijklm", "1", "1a", "A", "aB", "a b", " a", "a ", "a%", "%", "_", "#", "\x00", "\xff", "é"} {
			change(node, func(n *api.TreeNode) { n.Text = text })
		}
		for _, at := range []int{-1, 0, 2500, 2501, math.MaxInt, math.MinInt} {
			change(node, func(n *api.TreeNode) { n.At = at })
		}
		if node > 0 {
			yield(put(x.Nodes, node, n.Size, nil))
		}
	}
}

// put returns nodes with others in the place of some, and Sizes that differ by as much.
func put(nodes []api.TreeNode, at, size int, by []api.TreeNode) []api.TreeNode {
	out := slices.Concat(nodes[:at], by, nodes[at+size:])
	for up := range at {
		if up+nodes[up].Size > at {
			out[up].Size += len(by) - size
		}
	}
	return out
}

// P2.2: the form of a tree.
func TestCheckOfForms(t *testing.T) {
	good, bad := 0, 0
	c := newChecker()
	try := func(nodes []api.TreeNode) {
		want := api.ErrForm
		if c.right(nodes) {
			want = api.OK
			good++
		} else {
			bad++
		}
		if e := parse.Check(api.Tree{Nodes: nodes}); e != want {
			t.Fatalf("Check of %v: %v, not %v", nodes, e, want)
		}
	}
	x := mustParse(t, wholeText)
	wrongs(x, try)
	// Each kind in the place of each node: alone, and beside it.
	for node, n := range x.Nodes {
		for kind := range 80 {
			by := least(uint8(kind))
			if node > 0 {
				try(put(x.Nodes, node, n.Size, by))
				try(put(x.Nodes, node, 0, by))
			}
		}
	}
	for kind := range 80 {
		try(least(uint8(kind)))
	}
	// Just as many of all as there may be, and more.
	at, _, _ := bigTexts()
	for _, s := range at {
		x := mustParse(t, s)
		for node, n := range x.Nodes {
			if node > 0 {
				try(put(x.Nodes, node, 0, x.Nodes[node:node+n.Size]))
				try(put(x.Nodes, node, n.Size, nil))
			}
		}
	}
	if good < 1000 || bad < 10000 {
		t.Errorf("%d right ones, %d wrong ones", good, bad)
	}
	try(nil)
	try([]api.TreeNode{})
	try([]api.TreeNode{{Kind: api.BlockNode, Size: 1}})
}

// P2.2: random nodes, most of which are no tree.
func TestCheckOfRandomNodes(t *testing.T) {
	r := rand.New(rand.NewSource(5))
	c := newChecker()
	for range 20000 {
		nodes := mustParse(t, "task f(n: int) { if n { fail 1; } put x pair(n, ); }").Nodes
		for range 1 + r.Intn(3) {
			n := &nodes[r.Intn(len(nodes))]
			switch r.Intn(4) {
			case 0:
				n.Kind = uint8(r.Intn(70))
			case 1:
				n.Size += r.Intn(5) - 2
			case 2:
				n.N = r.Intn(4)
			default:
				n.Text = []string{"", "f", "if"}[r.Intn(3)]
			}
		}
		if e := parse.Check(api.Tree{Nodes: nodes}); (e == api.OK) != c.right(nodes) || e != api.OK && e != api.ErrForm {
			t.Fatalf("Check of %v: %v", nodes, e)
		}
	}
}

// deepTree returns the tree of a task with a depth.
func deepTree(depth int) []api.TreeNode {
	nodes := []api.TreeNode{{Kind: api.ProgramNode}, {Kind: api.TaskItem, Text: "f"}, {Kind: api.BlockNode}, {Kind: api.FailStmt}}
	for len(nodes) < depth-1 {
		nodes = append(nodes, api.TreeNode{Kind: api.NegNode})
	}
	nodes = append(nodes, api.TreeNode{Kind: api.NumNode})
	for i := range nodes {
		nodes[i].Size = len(nodes) - i
	}
	return nodes
}

// wideTree returns a tree with some nodes, of 6 tasks at most.
func wideTree(t *testing.T, nodes int) []api.TreeNode {
	x := mustParse(t, noded(600)).Nodes
	for i := len(x) - 1; len(x) < nodes; {
		x = put(x, i, 1, []api.TreeNode{{Kind: api.NegNode, Size: 2}, {Kind: api.NumNode, Size: 1}})
	}
	return x
}

// P2.2: the limits, and the order of the errors.
func TestCheckOfLimits(t *testing.T) {
	wrong := func(nodes []api.TreeNode) []api.TreeNode {
		out := slices.Clone(nodes)
		out[1].N = 7
		return out
	}
	for i, c := range []struct {
		nodes []api.TreeNode
		want  api.Errno
	}{
		{wideTree(t, 600), api.OK}, {wideTree(t, 601), api.ErrLimit}, {wrong(wideTree(t, 600)), api.ErrForm}, {wrong(wideTree(t, 601)), api.ErrLimit},
		{deepTree(30), api.OK}, {deepTree(31), api.ErrLimit}, {wrong(deepTree(30)), api.ErrForm}, {wrong(deepTree(31)), api.ErrForm}, {deepTree(600), api.ErrLimit}, {deepTree(601), api.ErrLimit},
		{make([]api.TreeNode, 600), api.ErrForm}, {make([]api.TreeNode, 601), api.ErrLimit},
	} {
		x := api.Tree{Nodes: c.nodes}
		if e := parse.Check(x); e != c.want {
			t.Errorf("%d: Check: %v, not %v", i, e, c.want)
		}
	}
	// The deepest node need not be the last one.
	x := deepTree(31)
	x = put(x, 3, 0, least(api.AllStmt))
	x = put(x, len(x), 0, nil)
	if e := parse.Check(api.Tree{Nodes: x}); e != api.ErrLimit {
		t.Errorf("Check of a deep tree: %v", e)
	}
	x = put(deepTree(31), 2, 29, nil)
	x = append(x, deepTree(31)[2:]...)
	x = append(x, api.TreeNode{Kind: api.UseItem, Text: "g", Size: 1})
	x[0].Size, x[1].Size = len(x), len(x)-2
	if e := parse.Check(api.Tree{Nodes: x}); e != api.ErrLimit {
		t.Errorf("Check of a deep tree with an item behind it: %v", e)
	}
}
