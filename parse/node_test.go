package parse_test

import (
	"math"
	"slices"
	"strings"
	"testing"

	"dripstone/api"
	"dripstone/parse"
)

// ways returns the path and the node above of each node, as they are met from the program on.
func ways(nodes []api.TreeNode) (paths [][]int, ups []int) {
	paths, ups = make([][]int, len(nodes)), make([]int, len(nodes))
	ups[0] = -1
	var walk func(node int)
	walk = func(node int) {
		for at, i := node+1, 0; at < node+nodes[node].Size; at, i = at+nodes[at].Size, i+1 {
			paths[at] = append(slices.Clone(paths[node]), i)
			ups[at] = node
			walk(at)
		}
	}
	walk(0)
	return paths, ups
}

// P2.5, P2.12: kids, nodes above, and paths.
func TestNodes(t *testing.T) {
	for _, s := range append(randomTexts(12, 150), wholeText, "", "use f();", noded(600), nested(30)) {
		x := mustParse(t, s)
		paths, ups := ways(x.Nodes)
		kids := make([][]int, len(x.Nodes))
		for node, up := range ups {
			if up >= 0 {
				kids[up] = append(kids[up], node)
			}
		}
		for node := range x.Nodes {
			if l, e := parse.Kids(x, node); !slices.Equal(l, kids[node]) || e != api.OK {
				t.Fatalf("Kids of %d of %q: %v, %v", node, s, l, e)
			}
			if up, e := parse.Up(x, node); up != ups[node] || e != api.OK {
				t.Fatalf("Up of %d of %q: %d, %v", node, s, up, e)
			}
			if l, e := parse.Path(x, node); !slices.Equal(l, paths[node]) || e != api.OK {
				t.Fatalf("Path of %d of %q: %v, %v", node, s, l, e)
			}
			if n, e := parse.Node(x, paths[node]); n != node || e != api.OK {
				t.Fatalf("Node of %v of %q: %d, %v", paths[node], s, n, e)
			}
			for _, i := range []int{-1, len(kids[node]), math.MaxInt, math.MinInt} {
				if n, e := parse.Node(x, append(slices.Clone(paths[node]), i)); n != 0 || e != api.ErrNone {
					t.Fatalf("Node of %v and %d of %q: %d, %v", paths[node], i, s, n, e)
				}
			}
		}
	}
	x := mustParse(t, "task f() { fail 1; }")
	if n, e := parse.Node(x, []int{0, 7, 0}); n != 0 || e != api.ErrNone {
		t.Errorf("Node: %d, %v", n, e)
	}
	if n, e := parse.Node(x, make([]int, 1000)); n != 0 || e != api.ErrNone {
		t.Errorf("Node of a long path: %d, %v", n, e)
	}
	if n, e := parse.Node(x, []int{}); n != 0 || e != api.OK {
		t.Errorf("Node of an empty path: %d, %v", n, e)
	}
}

// P2.3 to P2.8: functions with a tree have first the errors of Check, and then ErrNone.
func TestErrorsOfNodes(t *testing.T) {
	x := mustParse(t, "task f() { fail 1; }")
	wrong := api.Tree{Nodes: slices.Clone(x.Nodes)}
	wrong.Nodes[4].N = -1
	big := api.Tree{Nodes: wideTree(t, 601)}
	for _, c := range []struct {
		x    api.Tree
		node int
		want api.Errno
	}{
		{x, -1, api.ErrNone}, {x, 5, api.ErrNone}, {x, math.MaxInt, api.ErrNone}, {x, math.MinInt, api.ErrNone},
		{wrong, 1, api.ErrForm}, {wrong, 9, api.ErrForm}, {big, 1, api.ErrLimit}, {big, -1, api.ErrLimit}, {api.Tree{Nodes: deepTree(31)}, 99, api.ErrLimit}, {api.Tree{}, 0, api.ErrForm},
	} {
		if s, e := parse.Show(c.x, c.node); s != "" || e != c.want {
			t.Errorf("Show of %d: %q, %v", c.node, s, e)
		}
		if l, e := parse.Kids(c.x, c.node); l != nil || e != c.want {
			t.Errorf("Kids of %d: %v, %v", c.node, l, e)
		}
		if up, e := parse.Up(c.x, c.node); up != 0 || e != c.want {
			t.Errorf("Up of %d: %d, %v", c.node, up, e)
		}
		if l, e := parse.Path(c.x, c.node); l != nil || e != c.want {
			t.Errorf("Path of %d: %v, %v", c.node, l, e)
		}
		if l, e := parse.Sub(c.x, c.node); l != nil || e != c.want {
			t.Errorf("Sub of %d: %v, %v", c.node, l, e)
		}
		if y, e := parse.Splice(c.x, c.node, make([]api.TreeNode, 601)); y.Nodes != nil || e != c.want {
			t.Errorf("Splice at %d: %v, %v", c.node, y, e)
		}
		if c.want == api.ErrNone {
			continue
		}
		if n, e := parse.Node(c.x, []int{-1}); n != 0 || e != c.want {
			t.Errorf("Node: %d, %v", n, e)
		}
		if s, e := parse.Print(c.x); s != "" || e != c.want {
			t.Errorf("Print: %q, %v", s, e)
		}
	}
}

// P2.6: the part of a text of each node.
func TestRange(t *testing.T) {
	check := func(s string, want ...string) {
		t.Helper()
		for node, part := range want {
			r, e := parse.Range(s, node)
			if e != api.OK || s[r.From:r.To] != part {
				t.Errorf("Range of %d of %q: %v, %v", node, s, r, e)
			}
		}
		for _, node := range []int{-1, len(want), math.MaxInt, math.MinInt} {
			if r, e := parse.Range(s, node); r != (api.Stretch{}) || e != api.ErrNone {
				t.Errorf("Range of %d of %q: %v, %v", node, s, r, e)
			}
		}
	}
	lattice := "lattice a { b ! : c , d ; e }"
	check(" "+lattice+" % x", lattice, lattice, "b ! : c , d", "c", "d", "e")
	use := "use f ( int , map ( set ) , pair ( t , max ) ) ;"
	check(use, use, use, "int", "map ( set )", "set", "pair ( t , max )", "t", "max")
	task := func(s string) string { return "task f ( a : int ) {" + s + "}" }
	head := func(s string) []string {
		return []string{task(s), task(s), "a : int", "int", "{" + s + "}"}
	}
	one := func(s string, kids ...string) {
		t.Helper()
		check("\n"+task(" "+s+" ")+"\n", append(append(head(" "+s+" "), s), kids...)...)
	}
	one("new x : flag ;", "flag")
	one("share x : pair ( flag , set ) ;", "pair ( flag , set )", "flag", "set")
	one("let a = ( 1 ) ;", "1")
	one("put a ( ( 1 ) ) ;", "( ( 1 ) )", "1")
	one("put a on ;", "on")
	one("put a # b ;", "# b")
	one("put a { ( 1 ) , 2 } ;", "{ ( 1 ) , 2 }", "1", "2")
	one("put a [ ( 1 ) ] ( 2 ) ;", "[ ( 1 ) ] ( 2 )", "1", "( 2 )", "2")
	one("put a pair ( ( 1 ) , on ) ;", "pair ( ( 1 ) , on )", "( 1 )", "1", "on")
	one("put a pair ( , on ) ;", "pair ( , on )", "on")
	one("spawn f ( ) ;")
	one("spawn f ( ( 1 ) , 2 ) ;", "1", "2")
	one("when a ( 1 ) { } or on { fail 2 ; }", "( 1 ) { }", "( 1 )", "1", "{ }", "on { fail 2 ; }", "on", "{ fail 2 ; }", "fail 2 ;", "2")
	one("each a as k { }", "k", "{ }")
	one("all { all { } }", "{ all { } }", "all { }", "{ }")
	one("freeze a as b ;", "b")
	one("if ( 1 ) { }", "1", "{ }")
	one("if 1 { } else { fail 1 ; }", "1", "{ }", "{ fail 1 ; }", "fail 1 ;", "1")
	one("fail ( 1 + ( 2 ) ) * ( ( 3 ) - 4 ) ;", "( 1 + ( 2 ) ) * ( ( 3 ) - 4 )", "1 + ( 2 )", "1", "2", "( 3 ) - 4", "3", "4")
	one("fail ( ( 1 ) + 2 + ( 3 ) ) < ( 4 ) ;", "( ( 1 ) + 2 + ( 3 ) ) < ( 4 )", "( 1 ) + 2 + ( 3 )", "( 1 ) + 2", "1", "2", "3", "4")
	one("fail - ( - ( 1 ) ) ;", "- ( - ( 1 ) )", "- ( 1 )", "1")
	one("fail ( - 1 ) / 2 ;", "( - 1 ) / 2", "- 1", "1", "2")
	one("fail size ( x ) + has ( x , ( 1 ) ) - value ( x , 2 ) ;", "size ( x ) + has ( x , ( 1 ) ) - value ( x , 2 )", "size ( x ) + has ( x , ( 1 ) )", "size ( x )", "has ( x , ( 1 ) )", "1", "value ( x , 2 )", "2")
	for _, s := range []string{"", " ", "% x", "\n \n"} {
		if r, e := parse.Range(s, 0); r != (api.Stretch{}) || e != api.OK {
			t.Errorf("Range of %q: %v, %v", s, r, e)
		}
	}
	if r, e := parse.Range(" use f(); use g(); %", 0); r != (api.Stretch{From: 1, To: 18}) || e != api.OK {
		t.Errorf("Range of two items: %v, %v", r, e)
	}
}

// P2.13: ranges are in one another, or beside.
func TestRangesOfKids(t *testing.T) {
	for _, s := range append(randomTexts(13, 100), wholeText) {
		x := mustParse(t, s)
		parts := make([]api.Stretch, len(x.Nodes))
		for node := range x.Nodes {
			r, e := parse.Range(s, node)
			if e != api.OK || r.To < r.From || r.To > len(s) || node > 0 && r.From == r.To || strings.Trim(s[r.From:r.To], " \n") != s[r.From:r.To] {
				t.Fatalf("Range of %d of %q: %v, %v", node, s, r, e)
			}
			parts[node] = r
		}
		for node, n := range x.Nodes {
			end := parts[node].From
			for at := node + 1; at < node+n.Size; at += x.Nodes[at].Size {
				if parts[at].From < end {
					t.Fatalf("Range of %d of %q: %v", at, s, parts[at])
				}
				end = parts[at].To
			}
			if end > parts[node].To {
				t.Fatalf("Range of %d of %q: %v", node, s, parts[node])
			}
			// At is the sign of an operator, and of all others the beginning.
			if binary := n.Kind >= api.EqNode && n.Kind <= api.DivNode; binary && (n.At <= parts[node].From || n.At >= parts[node].To) || !binary && node > 0 && n.At != parts[node].From {
				t.Fatalf("At of %d of %q: %d", node, s, n.At)
			}
		}
	}
}
