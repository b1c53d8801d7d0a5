package check_test

import (
	"slices"
	"strconv"
	"strings"
	"testing"

	"dripstone/api"
	"dripstone/check"
	"dripstone/order"
)

// wholeText is a module with all kinds of nodes that mean or declare something.
const wholeText = `
lattice l { a: b, c; b: d; c: d; d! }
use far(int, l);
task main(n: int) {
  new x: set;
  share y: map(l);
  let m = n + 1;
  share z: l;
  new p: once;
  freeze p as q;
  all {
    spawn far(m, z);
    each x as k {
      put y [k] #d;
      new w: pair(max, l);
      all { put w pair(value(q, 1), #b); }
      freeze w as v;
    }
  }
  freeze x as u;
  if has(u, 1) + size(u) {
    when y [1] #b { spawn main(m); }
  } else { fail m; }
}
task other(s: set, n: int) { spawn main(n); put s {1}; }
`

// wholeNotes are the notes of wholeText: of each node, in their order, of which something is told, what it means (->), which type it declares (:), and which site it is (@).
const wholeNotes = `
above b -> elem b
above c -> elem c
above d -> elem d
above d -> elem d
named l -> lattice l
param n : int
new x : own set @0
share y : shared map(l) @1
named l -> lattice l
let m : int
name n -> param n
share z : shared l @2
named l -> lattice l
new p : own once @3
freeze p -> new p @4
bind q : frozen once
all @5
spawn far -> use far @6
name m -> let m
name z -> share z
each x -> new x @7
bind k : int
put y -> share y
name k -> bind k
# d -> elem d
new w : own pair(max, l) @8
named l -> lattice l
all @9
put w -> new w
value q -> bind q
# b -> elem b
freeze w -> new w @10
bind v : frozen pair(max, l)
freeze x -> new x @11
bind u : frozen set
has u -> bind u
size u -> bind u
when y -> share y @12
# b -> elem b
spawn main -> task main @13
name m -> let m
name m -> let m
param s : shared set
param n : int
spawn main -> task main @0
name n -> param n
put s -> param s
`

// P5.2: what nodes mean, declare, and which sites they are.
func TestLook(t *testing.T) {
	u := mustParse(t, wholeText)
	notes := mustLook(t, u)
	if n := len(u.Nodes); len(notes.Means) != n || len(notes.Types) != n || len(notes.Sites) != n || len(notes.Pools) != n {
		t.Fatalf("Look: %v", notes)
	}
	var out strings.Builder
	for node := range u.Nodes {
		line := ""
		if notes.Means[node] != -1 {
			line += " -> " + nodeName(u, notes.Means[node])
		}
		if s := typeName(t, notes.Types[node]); s != "" {
			line += " : " + s
		}
		if notes.Sites[node] != -1 {
			line += " @" + strconv.Itoa(notes.Sites[node])
		}
		if line != "" {
			out.WriteString(nodeName(u, node) + line + "\n")
		}
	}
	if want := strings.TrimLeft(wholeNotes, "\n"); out.String() != want {
		t.Errorf("Look:\n%s\nand not\n%s", out.String(), want)
	}
	// Of several nodes with one name the right ones are meant.
	params := ofKind(u, api.ParamNode)
	last := ofKind(u, api.NameNode)
	if notes.Means[last[len(last)-1]] != params[2] {
		t.Errorf("Look: the last name means %d", notes.Means[last[len(last)-1]])
	}
}

// P5.2: of several elements with one name that of the table in question is meant.
func TestLookElements(t *testing.T) {
	u := mustParse(t, "lattice l { o: p; p } lattice m { q: p; p } task f(x: pair(m, map(l)), y: l) { put x pair(#p, [1] #p); put y #p; }")
	notes := mustLook(t, u)
	elems := ofKind(u, api.ElemNode)
	var got []int
	for _, point := range ofKind(u, api.NamePoint) {
		got = append(got, notes.Means[point])
	}
	if want := []int{elems[3], elems[1], elems[1]}; !slices.Equal(got, want) {
		t.Errorf("Look: the points mean %v, and not %v", got, want)
	}
	above := ofKind(u, api.AboveNode)
	if notes.Means[above[0]] != elems[1] || notes.Means[above[1]] != elems[3] {
		t.Errorf("Look: %v", notes.Means)
	}
}

// P5.2: how many pools nodes have. A block has those of its statement.
func TestLookPools(t *testing.T) {
	u := mustParse(t, "task f(s: set) { all { new x: set; all { each x as k { fail 1; all { spawn f(s); } } } when s {1} { if 2 { let a = 3; } } } }")
	notes := mustLook(t, u)
	// program; task, param, set, block; all, block, new, set; all, block, each, bind, block; fail, num, all, block, spawn, name; when, case, keys, num, block, if, num, block, let, num
	want := []int{0, 0, 0, 0, 0, 0, 0, 1, 1, 1, 1, 2, 2, 2, 0, 0, 0, 0, 1, 1, 1, 1, 1, 1, 1, 1, 1, 1, 1, 1}
	if !slices.Equal(notes.Pools, want) {
		t.Errorf("Look: %v, and not %v", notes.Pools, want)
	}
}

// P5.3: Tables.
func TestTables(t *testing.T) {
	u := mustParse(t, "task f() { } lattice l { a: c, b, c; b: d; c: d, d; d! } use g(); lattice m { e }")
	l, e := check.Tables(u)
	want := []api.Table{
		{Name: "l", Elems: []string{"a", "b", "c", "d"}, Above: [][]int{{1, 2}, {3}, {3}, nil}, Wrong: []bool{false, false, false, true}},
		{Name: "m", Elems: []string{"e"}, Above: [][]int{nil}, Wrong: []bool{false}},
	}
	if e != api.OK || !slices.EqualFunc(l, want, sameTable) {
		t.Errorf("Tables: %v, %v", l, e)
	}
	if l, e := check.Tables(mustParse(t, exampleText)); len(l) != 0 || e != api.OK {
		t.Errorf("Tables of a module without any: %v, %v", l, e)
	}
	if l, e := check.Tables(mustParse(t, tables(api.MaxTables))); len(l) != api.MaxTables || e != api.OK {
		t.Errorf("Tables of a module with as many as there may be: %v, %v", l, e)
	}
	// A text of order is read alike.
	for _, s := range []string{"lattice l { a: b, c; b: d; c: d; d! }", "lattice one { a }", "lattice cube { o: a, b, c; a: ab, ac; b: ab, bc; c: ac, bc; ab: abc; ac: abc; bc!: abc; abc! }"} {
		want, _ := order.Parse(s)
		if l, e := check.Tables(mustParse(t, s)); e != api.OK || len(l) != 1 || !sameTable(l[0], want) {
			t.Errorf("Tables of %q: %v, %v", s, l, e)
		}
	}
}

// P5.3: Shape.
func TestShape(t *testing.T) {
	u := mustParse(t, "lattice l { a } use g(int, pair(max, map(once))); task f(x: pair(pair(flag, l), map(set)), n: int) { new y: map(l); share z: max; put z 1; }")
	want := []string{"pair(max, map(once))", "max", "map(once)", "once", "pair(pair(flag, l), map(set))", "pair(flag, l)", "flag", "l", "map(set)", "set", "map(l)", "l", "max"}
	var got []string
	for node, n := range u.Nodes {
		shape, e := check.Shape(u, node)
		if n.Kind < api.FlagType || n.Kind > api.PairType {
			if e != api.ErrNone || !sameShape(shape, api.Shape{}) {
				t.Errorf("Shape of %s: %v, %v", nodeName(u, node), shape, e)
			}
			continue
		}
		s, _ := order.ShapeText(shape)
		got = append(got, s)
	}
	if !slices.Equal(got, want) {
		t.Errorf("Shape: %v, and not %v", got, want)
	}
}

// P5.4: Sight.
func TestSight(t *testing.T) {
	u := mustParse(t, wholeText)
	want := map[string]string{
		"let m":      "param n, new x, share y",
		"+":          "param n, new x, share y",
		"freeze p":   "param n, new x, share y, let m, share z, new p",
		"all":        "param n, new x, share y, let m, share z, new p, bind q",
		"spawn far":  "param n, new x, share y, let m, share z, new p, bind q",
		"name z":     "param n, new x, share y, let m, share z, new p, bind q",
		"each x":     "param n, new x, share y, let m, share z, new p, bind q",
		"put y":      "param n, new x, share y, let m, share z, new p, bind q, bind k",
		"name k":     "param n, new x, share y, let m, share z, new p, bind q, bind k",
		"new w":      "param n, new x, share y, let m, share z, new p, bind q, bind k",
		"put w":      "param n, new x, share y, let m, share z, new p, bind q, bind k, new w",
		"value q":    "param n, new x, share y, let m, share z, new p, bind q, bind k, new w",
		"freeze w":   "param n, new x, share y, let m, share z, new p, bind q, bind k, new w",
		"freeze x":   "param n, new x, share y, let m, share z, new p, bind q",
		"if":         "param n, new x, share y, let m, share z, new p, bind q, bind u",
		"size u":     "param n, new x, share y, let m, share z, new p, bind q, bind u",
		"spawn main": "param n, new x, share y, let m, share z, new p, bind q, bind u",
		"fail":       "param n, new x, share y, let m, share z, new p, bind q, bind u",
		"put s":      "param s, param n",
	}
	met := map[string]bool{}
	for node, n := range u.Nodes {
		l, e := check.Sight(u, node)
		isStmt := n.Kind >= api.NewStmt && n.Kind <= api.FailStmt
		isExpr := n.Kind >= api.EqNode && n.Kind <= api.ValueNode
		if !isStmt && !isExpr {
			if e != api.ErrNone || len(l) != 0 {
				t.Errorf("Sight of %s: %v, %v", nodeName(u, node), l, e)
			}
			continue
		}
		name := nodeName(u, node)
		if e != api.OK {
			t.Errorf("Sight of %s: %v", name, e)
		}
		if s, ok := want[name]; ok && !met[name] && nodeNames(u, l) != s {
			t.Errorf("Sight of %s: %s", name, nodeNames(u, l))
		}
		met[name] = true
	}
}

// P5.4: Sites.
func TestSites(t *testing.T) {
	u := mustParse(t, wholeText)
	for item, want := range []string{"", "", "new x, share y, share z, new p, freeze p, all, spawn far, each x, new w, all, freeze w, freeze x, when y, spawn main", "spawn main"} {
		l, e := check.Sites(u, item)
		wantError := api.OK
		if item < 2 {
			wantError = api.ErrNone
		}
		if nodeNames(u, l) != want || e != wantError {
			t.Errorf("Sites of %d: %s, %v", item, nodeNames(u, l), e)
		}
	}
	if l, e := check.Sites(mustParse(t, "task f() { let a = 1; if a { fail 2; } }"), 0); len(l) != 0 || e != api.OK {
		t.Errorf("Sites of a task without any: %v, %v", l, e)
	}
}

// P5.5: Captures.
func TestCaptures(t *testing.T) {
	for _, x := range []struct {
		text string
		want []string // of each EachStmt
	}{
		{exampleText, []string{"new x"}},
		{"task f() { new x: set; all { each x as k { } } }", []string{""}},
		{"task f() { new x: set; all { each x as k { fail k; } } }", []string{""}},
		{wholeText, []string{"share y, bind q"}},
		{"task f(n: int, p: max) { new x: set; let a = 1; new v: set; freeze v as w; all { each x as k { fail a + n + has(w, n) + a; spawn f(a, p); put x {k}; } } }", []string{"param n, param p, new x, let a, bind w"}},
		{"task f(n: int) { new x: set; all { each x as k { new y: set; let b = n; all { each y as i { put y {k + b}; spawn f(n); } } } } }", []string{"param n", "param n, bind k, new y, let b"}},
		{lText + "task f(p: l) { new x: set; all { each x as k { new y: l; put y #b; when p #c { spawn f(p); } } } }", []string{"param p"}},
	} {
		u := mustParse(t, x.text)
		for i, each := range ofKind(u, api.EachStmt) {
			if l, e := check.Captures(u, each); nodeNames(u, l) != x.want[i] || e != api.OK {
				t.Errorf("Captures of %q: %s, %v", x.text, nodeNames(u, l), e)
			}
		}
	}
}

// P5.5: Passes.
func TestPasses(t *testing.T) {
	for _, x := range []struct {
		text string
		want []string // of each EachStmt and FreezeStmt
	}{
		{exampleText, []string{"spawn f", "spawn f, each x"}},
		{"task f() { new x: set; freeze x as y; }", []string{""}},
		// Of the same level, and with smaller numbers.
		{"task f() { new x: set; new y: set; all { spawn g(x); each y as i { spawn g(x); } spawn g(y); each x as k { spawn h(); } all { spawn h(); } spawn g(x); } freeze x as u; freeze y as v; } use g(set); use h();", []string{"", "spawn g, each y", "spawn g, each y, each x, spawn g", "each y, spawn g"}},
		{"task f() { new x: set; all { each x as k { new y: set; all { spawn g(y); spawn g(x); each y as i { spawn g(y); } } freeze y as v; } } freeze x as u; } use g(set);", []string{"", "spawn g", "spawn g, each y", "each x"}},
		// In other branches, too.
		{"task f(n: int) { new x: set; if n { all { spawn f(n); spawn g(x, x); } } else { all { each x as k { } } } freeze x as y; } use g(set, set);", []string{"spawn g", "spawn g, each x"}},
		// What a put does, or a name that is none of the kids, passes nothing on.
		{"task f(n: int) { new x: set; put x {1}; when x {1} { } all { spawn f(1); } freeze x as y; all { spawn f(size(y)); } }", []string{""}},
	} {
		u := mustParse(t, x.text)
		for i, node := range ofKind(u, api.EachStmt, api.FreezeStmt) {
			if l, e := check.Passes(u, node); nodeNames(u, l) != x.want[i] || e != api.OK {
				t.Errorf("Passes of %s, %q: %s, %v", nodeName(u, node), x.text, nodeNames(u, l), e)
			}
		}
	}
}
