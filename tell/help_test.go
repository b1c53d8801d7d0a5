package tell_test

import (
	"fmt"
	"slices"
	"strconv"
	"strings"
	"testing"

	"dripstone/api"
	"dripstone/check"
	"dripstone/elem"
	"dripstone/parse"
	"dripstone/tell"
)

// exampleText is the program of the chapter's examples that has a look-out.
const exampleText = "task main(n: int) { new x: set; all { spawn f(x, n); each x as k { if k > 0 { put x {k - 1}; } } } freeze x as y; fail size(y); } task f(p: set, n: int) { put p {n}; }"

// lText and tintText are tables; of both the last element is wrong.
const (
	lText    = "lattice l { a: b, c; b: d; c: d; d! } "
	tintText = "lattice tint { none: red, blue; red: both; blue: both; both! } "
)

// mustParse returns the tree of a text.
func mustParse(t *testing.T, s string) api.Tree {
	t.Helper()
	u, at, e := parse.Parse(s)
	if e != api.OK {
		t.Fatalf("Parse of %q: %v at %d", s, e, at)
	}
	return u
}

// mustPrint returns the text of a tree.
func mustPrint(t *testing.T, u api.Tree) string {
	t.Helper()
	s, e := parse.Print(u)
	if e != api.OK && e != api.ErrLimit {
		t.Fatalf("Print: %v", e)
	}
	return s
}

// mustBeProgram tells if a tree is no program.
func mustBeProgram(t *testing.T, u api.Tree) {
	t.Helper()
	if node, e := check.Program(u); e != api.OK {
		t.Fatalf("Program: %v at the node %d of\n%s", e, node, mustPrint(t, u))
	}
}

// mustRun returns the outcome of a program.
func mustRun(t *testing.T, u api.Tree, in []int) api.Outcome {
	t.Helper()
	o, e := tell.Run(u, in)
	if e != api.OK {
		t.Fatalf("Run: %v of\n%s", e, mustPrint(t, u))
	}
	return o
}

// mustLog returns the history of a program.
func mustLog(t *testing.T, u api.Tree, in []int) api.History {
	t.Helper()
	h, e := tell.Log(u, in)
	if e != api.OK {
		t.Fatalf("Log: %v of\n%s", e, mustPrint(t, u))
	}
	return h
}

// mustTables returns the tables of a program.
func mustTables(t *testing.T, u api.Tree) []api.Table {
	t.Helper()
	l, e := check.Tables(u)
	if e != api.OK {
		t.Fatalf("Tables: %v of\n%s", e, mustPrint(t, u))
	}
	return l
}

// mustBeBelow tells if an outcome is not below another one.
func mustBeBelow(t *testing.T, u api.Tree, a, b api.Outcome) {
	t.Helper()
	if is, e := tell.Below(mustTables(t, u), a, b); !is || e != api.OK {
		t.Fatalf("Below: %v, %v\n%v\n%v\nof\n%s", is, e, a, b, mustPrint(t, u))
	}
}

// same says whether two results are the same; a nil list is the same as an empty one.
func same(a, b any) bool {
	return fmt.Sprint(a) == fmt.Sprint(b)
}

// example is a program with inputs, and what it comes to: its text by Tell, or its error.
type example struct {
	text string
	in   []int
	want string
	e    api.Errno
}

// comes returns the example of a program without inputs, that comes to something.
func comes(text string, lines ...string) example {
	return example{text: text, want: strings.Join(lines, "\n") + "\n"}
}

// breaks returns the example of a program without inputs, that has an error.
func breaks(text string, e api.Errno) example {
	return example{text: text, e: e}
}

// testAll compares what programs come to, in the order of the history and in some others.
func testAll(t *testing.T, l []example) {
	t.Helper()
	for _, x := range l {
		u := mustParse(t, x.text)
		mustBeProgram(t, u)
		if s, e := tell.Tell(u, x.in); s != x.want || e != x.e {
			t.Errorf("Tell of %s:\n%s%v, and not\n%s%v", x.text, s, e, x.want, x.e)
		}
		o, e := tell.Run(u, x.in)
		if e != x.e {
			t.Errorf("Run of %s: %v", x.text, e)
		}
		for seed := range 5 {
			picks := make([]int, 50)
			for i := range picks {
				picks[i] = (seed*seed + 3*i + i*i) % (seed + 2)
			}
			p, f := tell.Order(u, x.in, picks)
			if (f != api.OK) != (x.e != api.OK) || f == api.OK && !tell.Agree(o, p) {
				t.Errorf("Order of %s by %v: %v, %v, and not %v", x.text, picks, p, f, o)
			}
		}
	}
}

// ofKind returns the nodes of a tree that are of one of some kinds, ascending.
func ofKind(u api.Tree, kinds ...uint8) []int {
	var out []int
	for node, n := range u.Nodes {
		if slices.Contains(kinds, n.Kind) {
			out = append(out, node)
		}
	}
	return out
}

// kindNames are how kinds are called in what tests say of nodes.
var kindNames = map[uint8]string{
	api.TaskItem: "task", api.NewStmt: "new", api.ShareStmt: "share", api.LetStmt: "let", api.PutStmt: "put", api.SpawnStmt: "spawn", api.WhenStmt: "when", api.EachStmt: "each",
	api.AllStmt: "all", api.FreezeStmt: "freeze", api.IfStmt: "if", api.FailStmt: "fail",
	api.AddNode: "+", api.SubNode: "-", api.MulNode: "*", api.DivNode: "/",
}

// words are the words of the kinds of events.
var words = [...]string{
	api.EventStep: "step", api.EventMake: "make", api.EventJoin: "join", api.EventSpawn: "spawn", api.EventWake: "wake", api.EventEach: "each",
	api.EventKey: "key", api.EventQuiet: "quiet", api.EventRead: "read", api.EventFail: "fail", api.EventEnd: "end",
}

// logText returns a text of a history: for each event its task, the word of its kind, the kind and the Text of its node, and Var, N and E; then for each task its path, its home, and By.
func logText(u api.Tree, h api.History) string {
	var out strings.Builder
	node := func(n int) string { return strings.TrimSpace(kindNames[u.Nodes[n].Kind] + " " + u.Nodes[n].Text) }
	for _, e := range h.Events {
		fmt.Fprintf(&out, "%d %s %s: %d %d %s\n", e.Task, words[e.Kind], node(e.Node), e.Var, e.N, elemText(e.E))
	}
	for _, a := range h.Actors {
		fmt.Fprintf(&out, "%v %s by %d\n", a.Path, node(a.Node), a.By)
	}
	return out.String()
}

// elemText returns a text of an element, in which elements of tables are their numbers.
func elemText(e api.Elem) string {
	var parts []string
	for _, key := range e.Keys {
		parts = append(parts, strconv.Itoa(key))
	}
	for i, kid := range e.Kids {
		if i < len(parts) {
			parts[i] += ": " + elemText(kid)
		} else {
			parts = append(parts, elemText(kid))
		}
	}
	inside := strings.Join(parts, ", ")
	return [...]string{"none", "on", strconv.Itoa(e.N), "clash", "#" + strconv.Itoa(e.N), "{" + inside + "}", "[" + inside + "]", "(" + inside + ")"}[e.Kind]
}

// without returns a tree without a node, and all that is in it.
func without(u api.Tree, node int) api.Tree {
	size := u.Nodes[node].Size
	out := api.Tree{Nodes: slices.Concat(u.Nodes[:node], u.Nodes[node+size:])}
	for up := range node {
		if up+u.Nodes[up].Size > node {
			out.Nodes[up].Size -= size
		}
	}
	return out
}

// joinedBefore returns the join of all that was joined into a variable before an event.
func joinedBefore(t *testing.T, u api.Tree, h api.History, v, event int) api.Elem {
	t.Helper()
	var l []api.Elem
	for _, e := range h.Events[:event] {
		if e.Kind == api.EventJoin && e.Var == v {
			l = append(l, e.E)
		}
	}
	out, e := elem.JoinAll(api.Lattice{Tables: mustTables(t, u), Shape: h.Vars[v].Shape}, l)
	if e != api.OK {
		t.Fatalf("JoinAll: %v", e)
	}
	return out
}
