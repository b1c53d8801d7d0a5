package tell_test

import (
	"strconv"
	"strings"
	"testing"

	"dripstone/api"
	"dripstone/tell"
)

// exprText is a program that does something (DO) with an expr where there are names for integers (n, m, k), frozen sets (s, e) and maps (p), maxes (a, b) and onces (c, d), and shared variables (g, h, i, j).
const exprText = "task main(n: int, m: int) { let k = n + 1; new vs: set; put vs {4, 0}; freeze vs as s; new ve: set; freeze ve as e; new vp: map(flag); put vp [9] on; put vp [-1000000000] on; freeze vp as p; if 1 {" +
	" new va: max; put va 0; freeze va as a; new vb: max; freeze vb as b; new vc: once; put vc -3; freeze vc as c; new vd: once; freeze vd as d; if 1 {" +
	" share g: max; share h: set; share i: map(max); share j: pair(max, max); DO share last: set; } } } task two(x: int, y: int) { }"

// How many steps are done, and variables made, before something is done with the expr.
const (
	exprSteps = 26
	exprVars  = 11
)

// P6.1: the integers of exprs.
func TestExprs(t *testing.T) {
	for expr, want := range map[string]int{
		"0": 0, "7": 7, "-7": -7, "--7": 7, "---7": -7, "1000000000": 1000000000, "-1000000000": -1000000000,
		"1 + 2": 3, "1 - 2": -1, "3 - 2 - 1": 0, "3 - (2 - 1)": 2, "2 * 3": 6, "-2 * 3": -6, "1 + 2 * 3": 7, "(1 + 2) * 3": 9,
		"7 / 2": 3, "-7 / 2": -3, "7 / -2": -3, "-7 / -2": 3, "1 / 2": 0, "-1 / 2": 0, "8 / 2 / 2": 2, "0 / 5": 0, "1000000000 / -1": -1000000000, "2 * 7 / 4": 3, "2 * (7 / 4)": 2,
		"500000000 + 500000000": 1000000000, "-500000000 - 500000000": -1000000000, "31622 * 31622": 999950884, "-1000000000 * 1": -1000000000, "500000000 * -2": -1000000000, "-(-1000000000)": 1000000000,
		"1 == 1": 1, "1 == 2": 0, "1 != 1": 0, "1 != 2": 1, "1 < 2": 1, "2 < 2": 0, "3 < 2": 0, "1 <= 2": 1, "2 <= 2": 1, "3 <= 2": 0,
		"1 > 2": 0, "2 > 2": 0, "3 > 2": 1, "1 >= 2": 0, "2 >= 2": 1, "3 >= 2": 1, "-5 < 0": 1, "(1 < 2) + (2 < 1)": 1, "1 + 1 == 2": 1,
		"n": 6, "-n": -6, "n * n - m": 31, "k + n": 13, "k": 7,
		"size(s)": 2, "size(e)": 0, "size(p)": 2, "has(s, 4)": 1, "has(s, 5)": 0, "has(s, -4)": 0, "has(s, n - 2)": 1, "has(e, 0)": 0, "has(p, 9)": 1, "has(p, -1000000000)": 1, "has(p, 0)": 0,
		"value(a, 1)": 0, "value(b, 1)": 1, "value(c, 1)": -3, "value(d, 1)": 1, "value(d, n / 2)": 3, "value(d, value(b, size(s)))": 2,
	} {
		u := mustParse(t, strings.Replace(exprText, "DO", "fail "+expr+";", 1))
		mustBeProgram(t, u)
		o, e := tell.Run(u, []int{6, 5})
		if e != api.OK || o.Steps != exprSteps+1 || !same(o.Fails, []int{want}) || len(o.Vars) != exprVars {
			t.Errorf("%s: %v after %d steps, %v, and not %d", expr, o.Fails, o.Steps, e, want)
		}
	}
}

// P6.1, P6.3: exprs that fail: with which number, and at which node (behind the ^). If several parts do the first one says how. The task fails, and nothing is done.
func TestFaults(t *testing.T) {
	for expr, want := range map[string]int{
		"1000000000 ^+ 1": -2, "-1000000000 ^+ -1": -2, "-1000000000 ^- 1": -2, "1000000000 ^- -1": -2, "31623 ^* 31623": -2, "-31623 ^* 31623": -2, "1000000000 ^* 1000000000": -2, "1000000000 ^* -1000000000": -2,
		"1 ^/ 0": -1, "0 ^/ 0": -1, "-1000000000 ^/ 0": -1, "n ^/ (n - 6)": -1, "1 / 2 ^/ (1 / 2)": -1,
		"(1 ^/ 0) + (1000000000 + 1)": -1, "(1000000000 ^+ 1) + 1 / 0": -2, "(1 ^/ 0) / (2 / 0)": -1, "1 / 1 + 2 ^/ 0 + 3 / 0": -1, "1000000000 * (10 ^/ 0)": -1, "(1000000000 ^* 2) / 0": -2, "0 * (2 ^/ 0)": -1,
		"-(1 ^/ 0)": -1, "-(1000000000 ^+ 1)": -2, "(1 ^/ 0) == (1 / 0)": -1, "1 != 1 ^/ 0": -1, "0 > 1000000000 ^+ 1": -2,
		"has(s, 1 ^/ 0)": -1, "value(a, 1 ^/ 0)": -1, "value(b, 1000000000 ^+ 1)": -2, "size(s) + has(s, 5 ^/ has(s, 3)) / 0": -1, "1000000000 ^+ size(s) - 2": -2,
	} {
		for _, stmt := range []string{
			"fail EXPR;", "let x = EXPR;", "if EXPR { share x: set; }", "if EXPR { } else { share x: set; }",
			"put g EXPR;", "put h {EXPR};", "put h {n, EXPR, 1 / 0};", "put i [EXPR] 5;", "put i [EXPR] 1 / 0;", "put i [m] EXPR;", "put j pair(EXPR, );", "put j pair(, EXPR);", "put j pair(EXPR, 2 / 0);",
			"spawn two(EXPR, 1 / 0);", "spawn two(n, EXPR);", "when g EXPR { fail 1; }", "when i [EXPR] 1 / 0 { fail 1; }", "when h {2, EXPR} { fail 1; }", "when j pair(1, EXPR) { }", "all { fail EXPR; }", "all { } fail EXPR;",
		} {
			testFault(t, strings.Replace(stmt, "EXPR", "("+expr+")", 1), want)
		}
	}
}

// testFault tests a statement at which a task fails because of an expr.
func testFault(t *testing.T, stmt string, want int) {
	t.Helper()
	text := strings.Replace(exprText, "DO", stmt, 1)
	at := strings.Index(text, "^")
	u := mustParse(t, strings.Replace(text, "^", "", 1))
	mustBeProgram(t, u)
	steps := exprSteps
	if strings.HasPrefix(stmt, "all { }") {
		steps++
	}
	o, e := tell.Run(u, []int{6, 5})
	if e != api.OK || !same(o.Fails, []int{want}) || o.Steps != steps || o.Tasks != 1 || len(o.Vars) != exprVars || len(o.Waits) != 0 {
		t.Errorf("%s: %v, %v", stmt, o, e)
	}
	h := mustLog(t, u, []int{6, 5})
	node := 0
	for i, n := range u.Nodes {
		if n.At == at && n.Kind >= api.AddNode && n.Kind <= api.DivNode {
			node = i
		}
	}
	if last := h.Events[len(h.Events)-1]; !same(last, api.Event{Kind: api.EventFail, Node: node, N: want}) {
		t.Errorf("%s: the last event is %v, and not at the node %d", stmt, last, node)
	}
}

// P6.1: the elements of points, and when they are below the value of a variable.
func TestPoints(t *testing.T) {
	for _, x := range []struct{ shape, puts, want, above, not string }{
		{"flag", "", "none", "", "on"},
		{"flag", "on", "on", "on", ""},
		{"max", "2; -1", "2", "2; -1; 0; -1000000000; n", "3; n + 1"},
		{"max", "-1000000000", "-1000000000", "-1000000000; n - 1000000000 - 2", "0; -999999999"},
		{"once", "n; 2; 4 / n", "2", "2; n", "1; -2"},
		{"once", "0", "0", "0", "1"},
		{"set", "{3, 1, n + 1, n}; {-7}", "{-7, 1, 2, 3}", "{1}; {3, 3, -7}; {n, 3 - 2, -7, 1 + n}", "{0}; {1, 2, 3, 4}"},
		{"l", "#b; #b", "#b", "#b", "#c"},
		{"tint", "#blue", "#blue", "#blue", "#red"},
		{"map(max)", "[2] 3; [n] n; [-1] 0", "[-1: 0, 2: 3]", "[2] 3; [n] 1; [n - 3] -9", "[2] 4; [0] -5"},
		{"map(set)", "[1] {2, 1}; [1] {4}", "[1: {1, 2, 4}]", "[1] {1}; [1] {4, 2}", "[1] {3}; [2] {1}"},
		{"map(l)", "[7] #c; [8] #b", "[7: #c, 8: #b]", "[7] #c", "[7] #b; [6] #c"},
		{"map(map(flag))", "[1] [2] on; [2] [1] on; [1] [3] on", "[1: [2: on, 3: on], 2: [1: on]]", "[1] [3] on; [2] [1] on", "[2] [2] on; [3] [1] on"},
		{"pair(flag, max)", "pair(on, )", "(on, none)", "pair(on, )", "pair(, 0); pair(on, 0)"},
		{"pair(flag, max)", "pair(, n)", "(none, 2)", "pair(, 1)", "pair(on, 1); pair(on, ); pair(, 3)"},
		{"pair(flag, max)", "pair(, -5); pair(on, -6)", "(on, -5)", "pair(on, -5); pair(on, ); pair(, -7)", "pair(on, 0)"},
		{"pair(l, map(tint))", "pair(#b, ); pair(, [1] #red)", "(#b, [1: #red])", "pair(#b, ); pair(, [1] #red); pair(#b, [1] #red)", "pair(#c, ); pair(, [1] #blue)"},
		{"pair(set, set)", "pair({1}, {2})", "({1}, {2})", "pair({1}, ); pair(, {2}); pair({1}, {2})", "pair({2}, ); pair(, {1})"},
		{"pair(pair(once, tint), map(once))", "pair(pair(, #red), [3] 4); pair(pair(0, ), )", "((0, #red), [3: 4])", "pair(pair(0, #red), ); pair(, [3] 4)", "pair(pair(1, ), ); pair(, [4] 4)"},
	} {
		text := lText + tintText + "task main(n: int) { share x: " + x.shape + "; "
		steps := 1
		for _, put := range split(x.puts) {
			text += "put x " + put + "; "
			steps++
		}
		want := "var main 0 " + x.shape + " = " + x.want + "\n"
		var l []example
		for _, point := range split(x.above) {
			l = append(l, example{text + "when x " + point + " { fail 1; } }", []int{2}, "tasks 1, steps " + strconv.Itoa(steps+2) + "\n" + want + "fail 1\n", api.OK})
		}
		for _, point := range split(x.not) {
			l = append(l, example{text + "when x " + point + " { fail 1; } }", []int{2}, "tasks 1, steps " + strconv.Itoa(steps) + "\n" + want + "wait main 1\n", api.OK})
		}
		testAll(t, l)
	}
}

// split returns the parts of a text between semicolons.
func split(s string) []string {
	if s == "" {
		return nil
	}
	return strings.Split(s, "; ")
}
