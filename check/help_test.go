package check_test

import (
	"slices"
	"strings"
	"testing"

	"dripstone/api"
	"dripstone/check"
	"dripstone/order"
	"dripstone/parse"
)

// exampleText is the program of the chapter's examples.
const exampleText = "task main(n: int) { new x: set; all { spawn f(x, n); each x as k { if k > 0 { put x {k - 1}; } } } freeze x as y; fail size(y); } task f(p: set, n: int) { put p {n}; }"

// lText and tintText are tables; of both the last element is wrong.
const (
	lText    = "lattice l { a: b, c; b: d; c: d; d! } "
	tintText = "lattice tint { none: red, blue; red: both; blue: both; both! } "
)

// mustParse returns the tree of a text.
func mustParse(t *testing.T, s string) api.Tree {
	t.Helper()
	u, at, e := parse.Parse(s)
	if e != api.OK {
		t.Fatalf("Parse of %q: %v at %d", s, e, at)
	}
	return u
}

// mustPrint returns the text of a tree.
func mustPrint(t *testing.T, u api.Tree) string {
	t.Helper()
	s, e := parse.Print(u)
	if e != api.OK && e != api.ErrLimit {
		t.Fatalf("Print: %v", e)
	}
	return s
}

// mustLook returns the notes of a module.
func mustLook(t *testing.T, u api.Tree) api.Notes {
	t.Helper()
	notes, e := check.Look(u)
	if e != api.OK {
		node, _ := check.Module(u)
		t.Fatalf("Look of %s: %v at the node %d", mustPrint(t, u), e, node)
	}
	return notes
}

// mustEffects returns the effects of a module.
func mustEffects(t *testing.T, u api.Tree) []api.Effect {
	t.Helper()
	l, e := check.Effects(u)
	if e != api.OK {
		t.Fatalf("Effects of %s: %v", mustPrint(t, u), e)
	}
	return l
}

// ofKind returns the nodes of a tree that are of one of some kinds, ascending.
func ofKind(u api.Tree, kinds ...uint8) []int {
	var out []int
	for node, n := range u.Nodes {
		if slices.Contains(kinds, n.Kind) {
			out = append(out, node)
		}
	}
	return out
}

// nodeAt returns the node of a kind that stands at a place, or -1.
func nodeAt(u api.Tree, at int, kind uint8) int {
	return slices.IndexFunc(u.Nodes, func(n api.TreeNode) bool { return n.At == at && n.Kind == kind })
}

// sameShape says whether two shapes are the same.
func sameShape(a, b api.Shape) bool {
	return a.Kind == b.Kind && a.Name == b.Name && slices.EqualFunc(a.Kids, b.Kids, sameShape)
}

// sameElem says whether two elements are the same.
func sameElem(a, b api.Elem) bool {
	return a.Kind == b.Kind && a.N == b.N && slices.Equal(a.Keys, b.Keys) && slices.EqualFunc(a.Kids, b.Kids, sameElem)
}

// sameType says whether two types are the same.
func sameType(a, b api.Type) bool {
	return a.Kind == b.Kind && sameShape(a.Shape, b.Shape)
}

// sameNotes says whether two notes are the same.
func sameNotes(a, b api.Notes) bool {
	return slices.Equal(a.Means, b.Means) && slices.EqualFunc(a.Types, b.Types, sameType) && slices.Equal(a.Sites, b.Sites) && slices.Equal(a.Pools, b.Pools)
}

// sameTable says whether two tables are the same.
func sameTable(a, b api.Table) bool {
	return a.Name == b.Name && slices.Equal(a.Elems, b.Elems) && slices.EqualFunc(a.Above, b.Above, slices.Equal[[]int]) && slices.Equal(a.Wrong, b.Wrong)
}

// sameEffect says whether two effects are the same.
func sameEffect(a, b api.Effect) bool {
	return slices.Equal(a.Puts, b.Puts) && slices.Equal(a.Waits, b.Waits) && a.Fails == b.Fails && a.Spawns == b.Spawns
}

// verdict is a text with the error that Module, or Program, has of it. In the text a ^ stands before the node of the error; kind is the kind of this node.
type verdict struct {
	text string
	kind uint8
	want api.Errno
}

// right returns the verdict on a text without an error.
func right(text string) verdict {
	return verdict{text, api.ProgramNode, api.OK}
}

// test calls Module, or Program, with the text.
func (x verdict) test(t *testing.T, call func(api.Tree) (int, api.Errno)) {
	t.Helper()
	at := max(strings.Index(x.text, "^"), 0)
	u := mustParse(t, strings.Replace(x.text, "^", "", 1))
	want := 0
	if x.want != api.OK {
		want = nodeAt(u, at, x.kind)
	}
	if node, e := call(u); node != want || e != x.want {
		t.Errorf("%q: %v at the node %d, and not %v at the node %d", x.text, e, node, x.want, want)
	}
}

// kindNames are how kinds are called in what tests say of nodes.
var kindNames = map[uint8]string{
	api.ProgramNode: "program", api.LatticeItem: "lattice", api.UseItem: "use", api.TaskItem: "task", api.ElemNode: "elem",
	api.AboveNode: "above", api.ParamNode: "param", api.BindNode: "bind", api.BlockNode: "block", api.CaseNode: "case",
	api.IntType: "int", api.FlagType: "flag", api.MaxType: "max", api.SetType: "set", api.OnceType: "once", api.NamedType: "named", api.MapType: "map", api.PairType: "pair",
	api.NewStmt: "new", api.ShareStmt: "share", api.LetStmt: "let", api.PutStmt: "put", api.SpawnStmt: "spawn", api.WhenStmt: "when", api.EachStmt: "each",
	api.AllStmt: "all", api.FreezeStmt: "freeze", api.IfStmt: "if", api.FailStmt: "fail",
	api.OnPoint: "on", api.IntPoint: "at", api.SetPoint: "keys", api.NamePoint: "#", api.KeyPoint: "key", api.PairPoint: "sides",
	api.EqNode: "==", api.NeNode: "!=", api.LtNode: "<", api.LeNode: "<=", api.GtNode: ">", api.GeNode: ">=", api.AddNode: "+", api.SubNode: "-", api.MulNode: "*", api.DivNode: "/",
	api.NegNode: "neg", api.NumNode: "num", api.NameNode: "name", api.SizeNode: "size", api.HasNode: "has", api.ValueNode: "value",
}

// kindName returns how a kind is called.
func kindName(kind uint8) string {
	return kindNames[kind]
}

// nodeName returns how a node is called: its kind, and its Text, if it has one.
func nodeName(u api.Tree, node int) string {
	return strings.TrimSpace(kindName(u.Nodes[node].Kind) + " " + u.Nodes[node].Text)
}

// nodeNames returns how some nodes are called, with commas between.
func nodeNames(u api.Tree, nodes []int) string {
	var out []string
	for _, node := range nodes {
		out = append(out, nodeName(u, node))
	}
	return strings.Join(out, ", ")
}

// typeName returns how a type is called: "int", or "own", "shared" or "frozen" and the text of its shape; of an empty type nothing.
func typeName(t *testing.T, x api.Type) string {
	t.Helper()
	names := map[uint8]string{api.TypeInt: "int", api.TypeOwn: "own", api.TypeShared: "shared", api.TypeFrozen: "frozen"}
	if x.Kind == 0 || x.Kind == api.TypeInt {
		if !sameShape(x.Shape, api.Shape{}) {
			t.Errorf("the type %v has a shape", x)
		}
		return names[x.Kind]
	}
	s, e := order.ShapeText(x.Shape)
	if e != api.OK {
		t.Errorf("ShapeText of %v: %v", x.Shape, e)
	}
	return names[x.Kind] + " " + s
}
