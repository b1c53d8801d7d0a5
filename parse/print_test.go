package parse_test

import (
	"regexp"
	"strings"
	"testing"

	"dripstone/api"
	"dripstone/parse"
)

// P2.3: how each kind of nodes is printed; the node is named by the kind of which it is the first one.
func TestShowOfEachKind(t *testing.T) {
	x := mustParse(t, wholeText)
	if s := mustPrint(t, x); s != wholeText {
		t.Errorf("Print:\n%s", s)
	}
	if s := mustShow(t, x, 0); s != wholeText {
		t.Errorf("Show of the program:\n%s", s)
	}
	if s := mustPrint(t, mustParse(t, " % \n")); s != "" {
		t.Errorf("Print of nothing: %q", s)
	}
	for _, c := range []struct {
		s    string
		kind uint8
		want string
	}{
		{wholeText, api.LatticeItem, "lattice tint { none: red, blue; red: both; blue: both; both! }"}, {"lattice a{b!:c,d;c}", api.LatticeItem, "lattice a { b!: c, d; c }"},
		{wholeText, api.ElemNode, "none: red, blue"}, {"lattice a{b!}", api.ElemNode, "b!"}, {"lattice a{b!:c}", api.ElemNode, "b!: c"}, {"lattice a{b}", api.ElemNode, "b"}, {wholeText, api.AboveNode, "red"},
		{wholeText, api.UseItem, "use far(int, set, pair(map(flag), tint));"}, {"use f();", api.UseItem, "use f();"}, {wholeText, api.ParamNode, "n: int"}, {wholeText, api.IntType, "int"}, {"use f(t);", api.NamedType, "t"},
		{"task f(){}", api.TaskItem, "task f() {\n}"}, {"task f(a:int){fail 1;}", api.TaskItem, "task f(a: int) {\n  fail 1;\n}"}, {"task f(a:int){fail 1;}", api.BlockNode, "{\n  fail 1;\n}"},
		{wholeText, api.PairType, "pair(map(flag), tint)"}, {wholeText, api.MapType, "map(flag)"}, {wholeText, api.FlagType, "flag"}, {wholeText, api.MaxType, "max"}, {wholeText, api.SetType, "set"}, {wholeText, api.OnceType, "once"},
		{wholeText, api.NewStmt, "new a: max;"}, {wholeText, api.ShareStmt, "share b: once;"}, {wholeText, api.LetStmt, "let c = n + 1 * 2 / 3 - 4;"}, {wholeText, api.PutStmt, "put x {1, c};"}, {wholeText, api.SpawnStmt, "spawn far(c, x, x);"}, {"task f(){spawn g();}", api.SpawnStmt, "spawn g();"},
		{wholeText, api.WhenStmt, "when b -1 {\n} or 2 {\n  fail 3 == 4;\n}"}, {wholeText, api.CaseNode, "-1 {\n}"}, {wholeText, api.EachStmt, "each x as k {\n  put b k;\n}"}, {wholeText, api.BindNode, "k"}, {wholeText, api.AllStmt, "all {\n  each x as k {\n    put b k;\n  }\n}"},
		{wholeText, api.FreezeStmt, "freeze a as d;"}, {wholeText, api.FailStmt, "fail 3 == 4;"}, {"task f(){if 1{}}", api.IfStmt, "if 1 {\n}"}, {"task f(){if 1{}else{if 2{}}}", api.IfStmt, "if 1 {\n} else {\n  if 2 {\n  }\n}"},
		{"task f(){when x 1{all{}}or 2{}or on{}}", api.WhenStmt, "when x 1 {\n  all {\n  }\n} or 2 {\n} or on {\n}"},
		{wholeText, api.IntPoint, "-1"}, {"task f(){put x(1+2)*3;}", api.IntPoint, "(1 + 2) * 3"}, {wholeText, api.SetPoint, "{1, c}"}, {"task f(){put x{(1)};}", api.SetPoint, "{1}"}, {wholeText, api.KeyPoint, "[n] pair(on, )"}, {"task f(){put x[1][2]on;}", api.KeyPoint, "[1] [2] on"},
		{wholeText, api.PairPoint, "pair(on, )"}, {"task f(){put x pair(,1);}", api.PairPoint, "pair(, 1)"}, {"task f(){put x pair(1,{2});}", api.PairPoint, "pair(1, {2})"}, {wholeText, api.OnPoint, "on"}, {wholeText, api.NamePoint, "#red"},
		{wholeText, api.EqNode, "3 == 4"}, {wholeText, api.NeNode, "2 != 1"}, {wholeText, api.LtNode, "value(d, 0) < n"}, {wholeText, api.LeNode, "n <= -1"}, {wholeText, api.GtNode, "n > 1"}, {wholeText, api.GeNode, "size(d) >= has(d, 1) * (2 != 1)"},
		{wholeText, api.AddNode, "n + 1 * 2 / 3"}, {wholeText, api.SubNode, "n + 1 * 2 / 3 - 4"}, {wholeText, api.MulNode, "1 * 2"}, {wholeText, api.DivNode, "1 * 2 / 3"}, {wholeText, api.NegNode, "-1"}, {"task f(){fail 0;}", api.NumNode, "0"}, {wholeText, api.NameNode, "n"},
		{wholeText, api.SizeNode, "size(d)"}, {wholeText, api.HasNode, "has(d, 1)"}, {wholeText, api.ValueNode, "value(d, 0)"}, {"task f(){fail has(x,(1<2));}", api.HasNode, "has(x, 1 < 2)"},
	} {
		x := mustParse(t, c.s)
		node := 0
		for x.Nodes[node].Kind != c.kind {
			node++
		}
		if s := mustShow(t, x, node); s != c.want {
			t.Errorf("Show of a %s: %q, not %q", kindName(c.kind), s, c.want)
		}
	}
}

// exprsOf returns all exprs with just so many operators, of some kinds; their operands are 1.
func exprsOf(operators int) [][]api.TreeNode {
	if operators == 0 {
		return [][]api.TreeNode{{{Kind: api.NumNode, N: 1, Size: 1}}}
	}
	var out [][]api.TreeNode
	for _, kid := range exprsOf(operators - 1) {
		out = append(out, append([]api.TreeNode{{Kind: api.NegNode, Size: 1 + len(kid)}}, kid...))
	}
	for left := range operators {
		for _, a := range exprsOf(left) {
			for _, b := range exprsOf(operators - 1 - left) {
				for _, kind := range []uint8{api.EqNode, api.GeNode, api.AddNode, api.SubNode, api.MulNode, api.DivNode} {
					out = append(out, append(append([]api.TreeNode{{Kind: kind, Size: 1 + len(a) + len(b)}}, a...), b...))
				}
			}
		}
	}
	return out
}

// P2.3, P2.9: operands stand in brackets just if another tree, or none, would be read without them.
func TestShowOfBrackets(t *testing.T) {
	task := mustParse(t, "task f() { fail 1; }")
	brackets := 0
	for operators := range 4 {
		for _, expr := range exprsOf(operators) {
			x, e := parse.Splice(task, 4, expr)
			if e != api.OK {
				t.Fatalf("Splice: %v", e)
			}
			s := mustPrint(t, x)
			if y := mustParse(t, s); !same(x, y) {
				t.Fatalf("Print of %s: %s", outline(x.Nodes), s)
			}
			var open []int
			for i := len("task f() {"); i < len(s); i++ {
				switch s[i] {
				case '(':
					open = append(open, i)
				case ')':
					from := open[len(open)-1]
					open = open[:len(open)-1]
					brackets++
					less := s[:from] + " " + s[from+1:i] + " " + s[i+1:]
					if y, _, e := parse.Parse(less); e == api.OK && same(x, y) {
						t.Fatalf("Print of %s: %s", outline(x.Nodes), s)
					}
				}
			}
		}
	}
	if brackets < 500 {
		t.Errorf("%d brackets", brackets)
	}
}

// P2.3: the limit, and the order of errors.
func TestPrintOfLimits(t *testing.T) {
	task := func(stmts int) string { return "task f(){" + strings.Repeat("fail aaaaaaaaaaaa;", stmts) + "}" }
	// Nine tasks of 265 bytes, one of 97, and a use with 8 bytes and its name.
	text := func(name string) string { return strings.Repeat(task(12), 9) + task(4) + "use " + name + "();" }
	x := mustParse(t, text("abcdefghij"))
	if s := mustPrint(t, x); len(s) != api.MaxText {
		t.Fatalf("Print: %d bytes", len(s))
	}
	x = mustParse(t, text("abcdefghijk"))
	if s, e := parse.Print(x); s != "" || e != api.ErrLimit {
		t.Errorf("Print of too much: %q, %v", s, e)
	}
	if s, e := parse.Show(x, 0); s != "" || e != api.ErrLimit {
		t.Errorf("Show of too much: %q, %v", s, e)
	}
	if s := mustShow(t, x, len(x.Nodes)-1); s != "use abcdefghijk();" {
		t.Errorf("Show of the last item: %q", s)
	}
	if s, e := parse.Show(x, len(x.Nodes)); s != "" || e != api.ErrNone {
		t.Errorf("Show of no node: %q, %v", s, e)
	}
	if s, e := parse.Show(x, -1); s != "" || e != api.ErrNone {
		t.Errorf("Show of no node: %q, %v", s, e)
	}
	x.Nodes[1].N = 1
	if s, e := parse.Print(x); s != "" || e != api.ErrForm {
		t.Errorf("Print of no tree: %q, %v", s, e)
	}
	if s, e := parse.Show(x, -1); s != "" || e != api.ErrForm {
		t.Errorf("Show of no tree: %q, %v", s, e)
	}
	if s, e := parse.Print(api.Tree{Nodes: deepTree(31)}); s != "" || e != api.ErrLimit {
		t.Errorf("Print of a deep tree: %q, %v", s, e)
	}
}

// bare returns a text without blanks at the beginnings of lines, and without brackets.
func bare(s string) string {
	return strings.NewReplacer("(", "", ")", "").Replace(regexp.MustCompile(`(?m)^ +`).ReplaceAllString(s, ""))
}

// P2.9: what is printed is read as the same tree, and Show is what Range is.
func TestPrintedAgain(t *testing.T) {
	for _, s := range append(randomTexts(9, 400), wholeText) {
		x := mustParse(t, s)
		p, e := parse.Print(x)
		if e == api.ErrLimit {
			continue
		}
		y := mustParse(t, p)
		if !same(x, y) {
			t.Fatalf("Parse of Print of %q: %q", s, p)
		}
		if q := mustPrint(t, y); q != p {
			t.Fatalf("Print of %q again: %q", p, q)
		}
		for node := range y.Nodes {
			r, e := parse.Range(p, node)
			if e != api.OK {
				t.Fatalf("Range of %d of %q: %v", node, p, e)
			}
			show := mustShow(t, y, node)
			if node == 0 {
				show = strings.TrimSuffix(show, "\n")
			}
			if bare(show) != bare(p[r.From:r.To]) || show != strings.TrimSpace(show) {
				t.Fatalf("Show of %d of %q: %q, not %q", node, p, show, p[r.From:r.To])
			}
		}
	}
}
