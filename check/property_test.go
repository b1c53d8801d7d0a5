package check_test

import (
	"math/rand"
	"slices"
	"testing"

	"dripstone/api"
	"dripstone/check"
	"dripstone/parse"
)

// moduleTexts are modules of which something is tested, beside those that are made.
func moduleTexts() []string {
	return []string{exampleText, wholeText,
		"lattice l { o: p; p } lattice m { q: p; p } task f(x: pair(m, map(l)), y: l) { put x pair(#p, [1] #p); put y #p; spawn f(x, y); }",
		"task a(a: set) { all { new b: set; all { spawn a(b); spawn c(b); each b as d { put b {d}; put a {d}; } } freeze b as e; if size(e) { spawn a(a); } } } use c(set);",
		"task f(a: once, b: once) { when a 0 { put b 0; } or 1 { put b 1; } or 2 { put b 2; } } task g(a: once, b: once) { spawn f(a, b); spawn f(b, a); }",
	}
}

// testModules returns the trees of modules: those of moduleTexts, and some that are made.
func testModules(t *testing.T, seed int64, n int) []api.Tree {
	t.Helper()
	out := someModules(t, seed, n)
	for _, s := range moduleTexts() {
		out = append(out, mustParse(t, s))
	}
	return out
}

// renamed returns a tree with a name in the place of another one wherever it stands.
func renamed(u api.Tree, from, to string) api.Tree {
	out := api.Tree{Nodes: slices.Clone(u.Nodes)}
	for node := range out.Nodes {
		if out.Nodes[node].Text == from {
			out.Nodes[node].Text = to
		}
	}
	return out
}

// renamedShape returns a shape with a name in the place of another one.
func renamedShape(s api.Shape, from, to string) api.Shape {
	out := api.Shape{Kind: s.Kind, Name: s.Name}
	if s.Name == from {
		out.Name = to
	}
	for _, kid := range s.Kids {
		out.Kids = append(out.Kids, renamedShape(kid, from, to))
	}
	return out
}

// P5.8: names are nothing.
func TestRenamed(t *testing.T) {
	for _, u := range testModules(t, 58, 60) {
		want := mustLook(t, u)
		effects := mustEffects(t, u)
		met := map[string]bool{"": true}
		for _, n := range u.Nodes {
			if met[n.Text] {
				continue
			}
			met[n.Text] = true
			v := renamed(u, n.Text, "fresh")
			got := mustLook(t, v)
			for node := range want.Types {
				got.Types[node].Shape = renamedShape(got.Types[node].Shape, "fresh", n.Text)
			}
			if !sameNotes(got, want) || !slices.EqualFunc(mustEffects(t, v), effects, sameEffect) {
				t.Fatalf("with another name for %s: %v, and not %v of\n%s", n.Text, got, want, mustPrint(t, u))
			}
		}
	}
}

// mustBeModule tells if a tree is no module.
func mustBeModule(t *testing.T, u api.Tree, why string, before api.Tree) {
	t.Helper()
	if node, e := check.Module(u); e != api.OK {
		t.Fatalf("%s: %v at the node %d of\n%sbefore:\n%s", why, e, node, mustPrint(t, u), mustPrint(t, before))
	}
}

// P5.9: a module with less is a module.
func TestLess(t *testing.T) {
	stmts, cases, items := 0, 0, 0
	for _, u := range testModules(t, 59, 150) {
		notes := mustLook(t, u)
		for node, n := range u.Nodes {
			up, _ := parse.Up(u, node)
			declares := slices.Contains([]uint8{api.NewStmt, api.ShareStmt, api.LetStmt, api.FreezeStmt}, n.Kind)
			isStmt := n.Kind >= api.NewStmt && n.Kind <= api.FailStmt && !declares
			isCase := n.Kind == api.CaseNode && u.Nodes[up].Size > n.Size+1
			isItem := up == 0 && !slices.Contains(notes.Means, node) && !meansInside(u, notes, node)
			if !isStmt && !isCase && !isItem {
				continue
			}
			mustBeModule(t, without(u, node), "without "+nodeName(u, node), u)
			switch {
			case isStmt:
				stmts++
			case isCase:
				cases++
			case isItem:
				items++
			}
		}
	}
	if stmts < 500 || cases < 50 || items < 50 {
		t.Errorf("only %d statements, %d cases and %d items", stmts, cases, items)
	}
}

// meansInside says whether a node outside of an item means one that is in it.
func meansInside(u api.Tree, notes api.Notes, item int) bool {
	end := item + u.Nodes[item].Size
	for node, d := range notes.Means {
		if (node < item || node >= end) && d > item && d < end {
			return true
		}
	}
	return false
}

// without returns a tree without a node, and all that is in it.
func without(u api.Tree, node int) api.Tree {
	size := u.Nodes[node].Size
	out := api.Tree{Nodes: slices.Concat(u.Nodes[:node], u.Nodes[node+size:])}
	for up := range node {
		if up+u.Nodes[up].Size > node {
			out.Nodes[up].Size -= size
		}
	}
	return out
}

// used returns a tree in which a UseItem stands in the place of a TaskItem.
func used(u api.Tree, task int) api.Tree {
	x := grown(u)
	kids, _ := parse.Kids(u, 0)
	i := slices.Index(kids, task)
	use := &twig{TreeNode: api.TreeNode{Kind: api.UseItem, Text: u.Nodes[task].Text}}
	for _, kid := range x.kids[i].kids {
		if kid.Kind == api.ParamNode {
			use.kids = append(use.kids, kid.kids[0])
		}
	}
	x.kids[i] = use
	return x.tree()
}

// notLess says whether an effect is not less than another one.
func notLess(a, b api.Effect) bool {
	implied := func(a, b []bool) bool {
		return slices.EqualFunc(a, b, func(x, y bool) bool { return x || !y })
	}
	return implied(a.Puts, b.Puts) && implied(a.Waits, b.Waits) && (a.Fails || !b.Fails) && (a.Spawns || !b.Spawns)
}

// P5.10, P5.11: a use in the place of a task; no effect becomes less by it.
func TestSeparate(t *testing.T) {
	more := 0
	for _, u := range testModules(t, 60, 200) {
		before := mustEffects(t, u)
		for _, task := range ofKind(u, api.TaskItem) {
			if u.Nodes[task].Text == "main" {
				continue
			}
			v := used(u, task)
			mustBeModule(t, v, "with a use of "+nodeName(u, task), u)
			after := mustEffects(t, v)
			if !slices.EqualFunc(after, before, notLess) {
				t.Fatalf("Effects: %v, and before %v of\n%s", after, before, mustPrint(t, u))
			}
			if !slices.EqualFunc(after, before, sameEffect) {
				more++
			}
		}
	}
	if more < 20 {
		t.Errorf("only %d times there was more", more)
	}
}

// P5.11: what a task may do is what it does itself, and what those may do that it spawns, to the same parameters.
func TestSpawned(t *testing.T) {
	for _, u := range testModules(t, 61, 300) {
		effects := map[int]api.Effect{}
		items := ofKind(u, api.UseItem, api.TaskItem)
		for i, x := range mustEffects(t, u) {
			effects[items[i]] = x
		}
		for _, item := range items {
			want := sumOfEffects(u, mustLook(t, u), item, effects)
			if u.Nodes[item].Kind == api.TaskItem && !sameEffect(effects[item], want) {
				t.Fatalf("Effects of %s: %v, and not %v of\n%s", nodeName(u, item), effects[item], want, mustPrint(t, u))
			}
		}
	}
}

// sumOfEffects returns what a task does itself, and what those may do that it spawns.
func sumOfEffects(u api.Tree, notes api.Notes, task int, effects map[int]api.Effect) api.Effect {
	var params []int
	var out api.Effect
	for node := task; node < task+u.Nodes[task].Size; node++ {
		param := slices.Index(params, notes.Means[node])
		switch n := u.Nodes[node]; n.Kind {
		case api.ParamNode:
			params = append(params, node)
			out.Puts, out.Waits = append(out.Puts, false), append(out.Waits, false)
		case api.PutStmt:
			if param >= 0 {
				out.Puts[param] = true
			}
		case api.WhenStmt:
			if param >= 0 {
				out.Waits[param] = true
			}
		case api.FailStmt, api.AddNode, api.SubNode, api.MulNode, api.DivNode:
			out.Fails = true
		case api.EachStmt:
			out.Spawns = true
		case api.SpawnStmt:
			out.Spawns = true
			x := effects[notes.Means[node]]
			out.Fails = out.Fails || x.Fails
			for i, kid := 0, node+1; kid < node+n.Size; i, kid = i+1, kid+u.Nodes[kid].Size {
				if param := slices.Index(params, notes.Means[kid]); param >= 0 && u.Nodes[kid].Kind == api.NameNode {
					out.Puts[param] = out.Puts[param] || x.Puts[i]
					out.Waits[param] = out.Waits[param] || x.Waits[i]
				}
			}
		}
	}
	return out
}

// P5.12: the order of the items does not matter.
func TestReversed(t *testing.T) {
	r := rand.New(rand.NewSource(62))
	for _, u := range testModules(t, 63, 200) {
		x := grown(u)
		before := mustEffects(t, u)
		slices.Reverse(x.kids)
		v := x.tree()
		mustBeModule(t, v, "the other way round", u)
		after := mustEffects(t, v)
		slices.Reverse(after)
		if !slices.EqualFunc(after, before, sameEffect) {
			t.Fatalf("Effects: %v, and the other way round %v of\n%s", before, after, mustPrint(t, u))
		}
		r.Shuffle(len(x.kids), func(i, j int) { x.kids[i], x.kids[j] = x.kids[j], x.kids[i] })
		mustBeModule(t, x.tree(), "in another order", u)
	}
}
