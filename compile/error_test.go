package compile_test

import (
	"fmt"
	"math/rand"
	"reflect"
	"slices"
	"strings"
	"testing"

	"dripstone/api"
	"dripstone/check"
	"dripstone/compile"
	"dripstone/lex"
	"dripstone/parse"
)

// answer is what a function returned: its result, and its error.
type answer struct {
	got any
	e   api.Errno
}

// empty says whether the result is a zero value.
func (x answer) empty() bool {
	v := reflect.ValueOf(x.got)
	return v.IsZero() || v.Kind() == reflect.Slice && v.Len() == 0
}

// String lets an answer be read in what tests say.
func (x answer) String() string {
	return fmt.Sprint(x.got, " ", int(x.e))
}

// answers returns what all functions with a tree return, with a node for those that want one.
func answers(u api.Tree, node int) map[string]answer {
	out := map[string]answer{}
	add := func(name string, got any, e api.Errno) { out[name] = answer{got, e} }
	c, e := compile.Compile(u)
	add("Compile", c, e)
	shapes, e := compile.Shapes(u)
	add("Shapes", shapes, e)
	homes, e := compile.Homes(u)
	add("Homes", homes, e)
	segment, e := compile.Segment(u, node)
	add("Segment", segment, e)
	origins, e := compile.Origins(u)
	add("Origins", origins, e)
	registers, e := compile.Registers(u, node)
	add("Registers", registers, e)
	return out
}

// deepTree returns a tree that is too deep.
func deepTree() api.Tree {
	var out api.Tree
	for range api.MaxDeep + 2 {
		out.Nodes = append(out.Nodes, api.TreeNode{Kind: api.NegNode})
	}
	out.Nodes[len(out.Nodes)-1].Kind = api.NumNode
	for i, kind := range []uint8{api.ProgramNode, api.TaskItem, api.BlockNode, api.FailStmt} {
		out.Nodes[i].Kind = kind
	}
	out.Nodes[1].Text = "f"
	for i := range out.Nodes {
		out.Nodes[i].Size = len(out.Nodes) - i
	}
	return out
}

// Those of parse.Check come first.
func TestTreeErrors(t *testing.T) {
	whole := mustParse(t, exampleText)
	odd := func(change func(l []api.TreeNode)) api.Tree {
		l := slices.Clone(whole.Nodes)
		change(l)
		return api.Tree{Nodes: l}
	}
	for _, x := range []struct {
		u    api.Tree
		want api.Errno
	}{
		{api.Tree{}, api.ErrForm},
		{api.Tree{Nodes: make([]api.TreeNode, api.MaxNodes)}, api.ErrForm},
		{api.Tree{Nodes: make([]api.TreeNode, api.MaxNodes+1)}, api.ErrLimit},
		{deepTree(), api.ErrLimit},
		{odd(func(l []api.TreeNode) { l[0].Kind = 0 }), api.ErrForm},
		{odd(func(l []api.TreeNode) { l[1].Size = -1 }), api.ErrForm},
		{odd(func(l []api.TreeNode) { l[1].Text = "flag" }), api.ErrForm},
		{odd(func(l []api.TreeNode) { l[2].Text = "" }), api.ErrForm},
		{odd(func(l []api.TreeNode) { l[3].N = 1 }), api.ErrForm},
		{odd(func(l []api.TreeNode) { l[3].At = api.MaxText + 1 }), api.ErrForm},
		{odd(func(l []api.TreeNode) { l[5].Kind = 200 }), api.ErrForm},
		{api.Tree{Nodes: whole.Nodes[1:]}, api.ErrForm},
		{api.Tree{Nodes: whole.Nodes[:20]}, api.ErrForm},
	} {
		if e := parse.Check(x.u); e != x.want {
			t.Fatalf("parse.Check of %v: %v, and not %v", x.u, e, x.want)
		}
		for _, node := range []int{0, 1, -1, 1000} {
			for name, a := range answers(x.u, node) {
				if a.e != x.want || !a.empty() {
					t.Errorf("%s of a tree with %d nodes: %v", name, len(x.u.Nodes), a)
				}
			}
		}
	}
}

// wrongTexts are no modules, and many of them would have too much code.
func wrongTexts() map[string]api.Errno {
	deep := strings.Repeat("all { ", api.MaxPools+1)
	end := strings.Repeat("} ", api.MaxPools+1)
	return map[string]api.Errno{
		"task f() { fail x; }":                                       api.ErrName,
		"task f() { " + deep + end + "fail x; }":                     api.ErrName,
		"use f(); use f();":                                          api.ErrTwice,
		"task f() { " + deep + end + "let a = 1; let a = 2; }":       api.ErrTwice,
		"lattice l { a: a }":                                         api.ErrFalse,
		"use f(map(map(map(map(set)))));":                            api.ErrLimit,
		"task f(n: int) { put n 1; }":                                api.ErrType,
		"task f(n: max) { " + deep + end + "fail n; }":               api.ErrType,
		"task f(x: set) { freeze x as y; }":                          api.ErrState,
		"task f(x: set) { " + deep + end + "freeze x as y; }":        api.ErrState,
		"task f(x: max) { when x 1 { } or 2 { } }":                   api.ErrFalse,
		"task f(x: max) { " + deep + end + "when x 1 { } or 2 { } }": api.ErrFalse,
		"task f() { new x: set; each x as k { } }":                   api.ErrState,
		"task f(x: once) { when x 1 { } or 1 + 1 { } }":              api.ErrFalse,
		"task f() { new x: set; spawn g(x); } task g(x: set) { }":    api.ErrState,
		"task f() { new x: set; freeze x as y; put x {1}; }":         api.ErrState,
		"lattice l { a: b; b! } task f(x: l) { when x #b { } }":      api.ErrFalse,
		"lattice l { a: b; b } task f(x: l) { put x #a; }":           api.ErrType,
		"task f(x: set) { spawn f(); }":                              api.ErrType,
		"task f(x: map(set)) { put x {1}; }":                         api.ErrType,
		"task f() { new x: max; freeze x as y; fail size(y); }":      api.ErrType,
		"task f() { spawn g(); }":                                    api.ErrName,
		"task f(x: l) { }":                                           api.ErrName,
		"task f(x: set) { put x {1}; } task g() { put x {1}; }":      api.ErrName,
		"task f(x: set) { if 1 { let a = 1; } put x {a}; }":          api.ErrName,
	}
}

// Those of check.Module come before those that are named for a function; Text tells the place of their node.
func TestModuleErrors(t *testing.T) {
	for s, want := range wrongTexts() {
		u := mustParse(t, s)
		at, e := check.Module(u)
		if e != want {
			t.Fatalf("Module of %q: %v, and not %v", s, e, want)
		}
		for node := -1; node <= len(u.Nodes); node++ {
			for name, a := range answers(u, node) {
				if a.e != want || !a.empty() {
					t.Errorf("%s of %q, %d: %v", name, s, node, a)
				}
			}
		}
		if got, place, e := compile.Text(s); got != "" || place != u.Nodes[at].At || e != want {
			t.Errorf("Text of %q: %q, %d, %v, and not %v at %d", s, got, place, e, want, u.Nodes[at].At)
		}
	}
}

// P8.5: first come those of parse.Parse, with the place.
func TestTextErrors(t *testing.T) {
	for _, x := range []struct {
		s  string
		at int
		e  api.Errno
	}{
		{"task f() { & }", 11, api.ErrForm},
		{"task f() {\n\tfail 1; }", 11, api.ErrForm},
		{"task f(", 7, api.ErrForm},
		{"task f() { let a = 1 }", 21, api.ErrForm},
		{"task f() { fail x; } }", 21, api.ErrForm},
		{"task f() { fail 1000000001; }", 16, api.ErrForm},
		{strings.Repeat(" ", api.MaxText+1), 0, api.ErrLimit},
		{"task f() { fail x; fail " + strings.Repeat("-", 30) + "1; }", 0, api.ErrLimit},
		{"task f(x: set) { put x {y, 2, 3, 4, 5}; }", 23, api.ErrRange},
		// These have a place of their own, the ones behind them.
		{"task f() { put x 1; }", 11, api.ErrName},
		{"task f(n: int) { fail 1 + -m; }", 27, api.ErrName},
		{"task f(x: max) {\n  when x 1 { } or\n 2 { } }", 36, api.ErrFalse},
		// That of Compile has none.
		{"task f() {" + strings.Repeat("all {", 13) + strings.Repeat("}", 14), 0, api.ErrLimit},
	} {
		if s, at, e := compile.Text(x.s); s != "" || at != x.at || e != x.e {
			t.Errorf("Text of %q: %q, %v at %d, and not %v at %d", x.s, s, e, at, x.e, x.at)
		}
	}
}

// P1: all functions come to an end, without a panic, whatever their arguments are; their errors are in their order.
func TestOdd(t *testing.T) {
	r := rand.New(rand.NewSource(1))
	numbers := []int{0, 0, 1, 1, 2, 3, 4, 5, 7, 9, 20, -1, 1000, 1 << 62, -1 << 63, 1<<63 - 1}
	names := []string{"", "main", "n", "m", "x", "y", "k", "s", "l", "tint", "f", "g", "a", "flag", "A"}
	met := map[api.Errno]int{}
	for range 3000 {
		u := mustParse(t, []string{exampleText, wholeText, nestedText, aliasText}[r.Intn(4)])
		for range 1 + r.Intn(3) {
			n := &u.Nodes[r.Intn(len(u.Nodes))]
			switch r.Intn(16) {
			default:
				if n.Text != "" {
					n.Text = names[r.Intn(len(names))]
				}
			case 4, 5, 6:
				if n.Kind == api.NewStmt {
					n.Kind = api.ShareStmt
				}
			case 0:
				n.Kind = uint8(r.Intn(70))
			case 1:
				n.N = numbers[r.Intn(len(numbers))]
			case 2:
				n.At = numbers[r.Intn(len(numbers))]
			case 3:
				n.Size = numbers[r.Intn(len(numbers))]
			}
		}
		_, e := check.Module(u)
		met[e]++
		node := numbers[r.Intn(len(numbers))]
		isHome := e == api.OK && node >= 0 && node < len(u.Nodes) && (u.Nodes[node].Kind == api.TaskItem || u.Nodes[node].Kind == api.EachStmt)
		for name, a := range answers(u, node) {
			want := e
			if want == api.OK && (name == "Segment" || name == "Registers") && !isHome {
				want = api.ErrNone
			}
			if a.e != want || a.e != api.OK && !a.empty() {
				t.Fatalf("%s of %d: %v, and not %v of %v", name, node, a, want, u)
			}
		}
	}
	for _, e := range []api.Errno{api.OK, api.ErrForm, api.ErrTwice, api.ErrName, api.ErrType, api.ErrState} {
		if met[e] < 10 {
			t.Errorf("only %d trees have the error %v: %v", met[e], e, met)
		}
	}
}

// P8.5: of changed texts, too, Text has the errors of parse.Parse, and those of check.Module.
func TestChangedTexts(t *testing.T) {
	r := rand.New(rand.NewSource(2))
	met := map[api.Errno]int{}
	for range 6000 {
		s := []string{exampleText, smallText, nestedText, aliasText}[r.Intn(4)]
		tokens, _, _ := lex.Scan(s)
		token, by := tokens[r.Intn(len(tokens))], tokens[r.Intn(len(tokens))]
		if token.Kind != by.Kind && r.Intn(4) > 0 {
			continue
		}
		s = s[:token.At] + by.Text + s[token.At+len(token.Text):]
		u, at, e := parse.Parse(s)
		if e == api.OK {
			var node int
			if node, e = check.Module(u); e != api.OK {
				at = u.Nodes[node].At
			}
		}
		met[e]++
		got, place, f := compile.Text(s)
		if e == api.OK {
			if want := mustText(t, mustCompile(t, u)); got != want || place != 0 || f != api.OK {
				t.Fatalf("Text of %q: %s, %d, %v", s, got, place, f)
			}
			continue
		}
		if got != "" || place != at || f != e {
			t.Fatalf("Text of %q: %s, %d, %v, and not %v at %d", s, got, place, f, e, at)
		}
	}
	for _, e := range []api.Errno{api.OK, api.ErrForm, api.ErrTwice, api.ErrName, api.ErrType, api.ErrState} {
		if met[e] < 3 {
			t.Errorf("only %d texts have the error %v: %v", met[e], e, met)
		}
	}
}
