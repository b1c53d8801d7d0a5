package tell_test

import (
	"strconv"
	"strings"
	"testing"

	"dripstone/api"
	"dripstone/tell"
)

// testLimit compares the error of a program by all functions with what it has without After.
func testLimit(t *testing.T, text string, in []int, want api.Errno) {
	t.Helper()
	u := mustParse(t, text)
	mustBeProgram(t, u)
	picks := []int{5, 1, 0, 3, 7, 2}
	for name, a := range answers(u, in, picks, 1<<40) {
		if a.e != want || want != api.OK && !a.empty() {
			t.Errorf("%s of %s with %v: %v, and not %v", name, text, in, a.e, want)
		}
	}
}

// R7: as many tasks and variables as there may be, and one more. It does not matter of which kind they are.
func TestMostTasks(t *testing.T) {
	for _, text := range []string{
		"task main(n: int) { if n > 1 { spawn main(n - 1); } }",
		"task main(n: int) { spawn f(n - 1); } task f(n: int) { if n > 1 { spawn f(n - 1); } else { fail 1; } }",
		"task main(n: int) { new x: set; all { spawn f(x, n - 5); put x {1, 2}; each x as k { } put x {3}; } } task f(x: set, n: int) { if n > 0 { spawn f(x, n - 1); } }",
		"task main(n: int) { new x: set; all { spawn f(x, n - 5); put x {1, 2}; put x {3}; each x as k { } } } task f(x: set, n: int) { if n > 0 { spawn f(x, n - 1); } }",
	} {
		testLimit(t, text, []int{200}, api.OK)
		testLimit(t, text, []int{201}, api.ErrLimit)
		if o := mustRun(t, mustParse(t, text), []int{200}); o.Tasks != api.MaxTasks {
			t.Errorf("Run of %s: %d tasks", text, o.Tasks)
		}
	}
	vars := "task main(n: int) { new a: set; new b: max; new c: flag; share d: once; share e: set; if n > 1 { spawn main(n - 1); } }"
	testLimit(t, vars, []int{40}, api.OK)
	testLimit(t, vars, []int{41}, api.ErrLimit)
	if o := mustRun(t, mustParse(t, vars), []int{40}); len(o.Vars) != api.MaxVars {
		t.Errorf("Run of %s: %d variables", vars, len(o.Vars))
	}
	shared := "task main(n: int) { share a: set; if n > 1 { spawn main(n - 1); } else { share b: set; } }"
	testLimit(t, shared, []int{199}, api.OK)
	testLimit(t, shared, []int{200}, api.ErrLimit)
}

// R7: as many keys as a set or a map may have, wherever it is, and one more.
func TestMostKeys(t *testing.T) {
	for _, x := range []struct{ shape, put string }{
		{"set", "{n}"}, {"map(max)", "[n] 1"}, {"map(set)", "[n] {n}"}, {"map(set)", "[3] {n}"}, {"pair(set, max)", "pair({n}, n)"}, {"pair(max, map(flag))", "pair(, [n] on)"}, {"map(map(map(max)))", "[1] [2] [n] 5"}, {"map(map(map(max)))", "[n] [n] [n] 5"},
	} {
		text := "task main(n: int) { share x: " + x.shape + "; spawn f(x, n); } task f(x: " + x.shape + ", n: int) { put x " + x.put + "; if n > 1 { spawn f(x, n - 1); } }"
		testLimit(t, text, []int{40}, api.OK)
		testLimit(t, text, []int{41}, api.ErrLimit)
	}
	// Forty keys that are there already are none too many.
	testLimit(t, "task main(n: int) { share x: set; spawn f(x, n); spawn f(x, n); } task f(x: set, n: int) { put x {n}; if n > 1 { spawn f(x, n - 1); } }", []int{40}, api.OK)
	testLimit(t, "task main(n: int) { share x: set; spawn f(x, n); } task f(x: set, n: int) { if n > 1 { put x {n, n - 1, n - 2, n - 3}; spawn f(x, n - 4); } else { put x {n + 100, 1000}; } }", []int{36}, api.OK)
	testLimit(t, "task main(n: int) { share x: set; spawn f(x, n); } task f(x: set, n: int) { if n > 1 { put x {n, n - 1, n - 2, n - 3}; spawn f(x, n - 4); } else { put x {n + 100, 1000}; } }", []int{40}, api.ErrLimit)
}

// steps returns statements that are so many steps.
func steps(n int) string {
	out := ""
	for ; n > 12; n -= 12 {
		out += "if 1 { " + lets(11) + "} "
	}
	return out + lets(n)
}

// lets returns so many pools that are closed at once.
func lets(n int) string {
	return strings.Repeat("all { } ", n)
}

// manySteps is a program of 3980 steps, but for those at the end of main; this one's number is 199.
func manySteps(last string) string {
	return "task main(n: int, m: int) { if n > 0 { spawn main(n - 1, m); " + steps(18) + "} else { " + last + " } } "
}

// R7: as many steps as there may be, and one more. What fails by an expr is none.
func TestMostSteps(t *testing.T) {
	// 199 tasks with an if, a spawn and 18 steps, and one with an if.
	in := []int{199, 0}
	for last, want := range map[string]api.Errno{
		steps(19):                                         api.OK,
		steps(20):                                         api.ErrLimit,
		steps(18) + "fail 1;":                             api.OK,
		steps(19) + "fail 1;":                             api.ErrLimit,
		steps(19) + "fail 1 / 0;":                         api.OK,
		steps(19) + "let a = 1 / m;":                      api.OK,
		steps(19) + "let a = 1;":                          api.ErrLimit,
		steps(19) + "if 1 { }":                            api.ErrLimit,
		steps(19) + "share x: set;":                       api.ErrLimit,
		steps(19) + "all { }":                             api.ErrLimit,
		steps(18) + "share x: max; when x 1 { }":          api.OK,
		steps(17) + "share x: max; put x 1; when x 1 { }": api.ErrLimit,
		steps(18) + "new x: max; freeze x as y;":          api.ErrLimit,
		steps(18) + "new x: max; all { all { } }":         api.ErrLimit,
		steps(18) + "new x: set; all { each x as k { } }": api.ErrLimit,
		steps(16) + "new x: set; all { each x as k { } }": api.OK,
		// A step too many comes before all else.
		steps(17) + "share x: once; put x 1; put x 2;": api.ErrLimit,
		steps(16) + "share x: once; put x 1; put x 2;": api.ErrFail,
		steps(19) + "spawn main(1, 1);":                api.ErrLimit,
	} {
		testLimit(t, manySteps(last), in, want)
	}
	u := mustParse(t, manySteps(steps(19)+"fail 1 / 0;"))
	if o := mustRun(t, u, in); o.Steps != api.MaxSteps || o.Tasks != api.MaxTasks || !same(o.Fails, []int{-1}) {
		t.Errorf("Run: %d steps, %d tasks, %v", o.Steps, o.Tasks, o.Fails)
	}
	u = mustParse(t, manySteps(steps(20)+"fail 1 / 0;"))
	for _, n := range []int{3999, 4000} {
		if o, e := tell.After(u, in, n); e != api.OK || o.Steps != n || o.Tasks != 200 {
			t.Errorf("After %d: %d steps, %v", n, o.Steps, e)
		}
	}
	if o, e := tell.After(u, in, 4001); e != api.ErrLimit || !same(o, api.Outcome{}) {
		t.Errorf("After 4001: %v", e)
	}
}

// Of one PutStmt the keys come before what is wrong, and this before a task too many.
func TestErrorOrder(t *testing.T) {
	keys := func(last string) string {
		return "task main(n: int) { new x: map(once); all { spawn f(x, n); } put x " + last + "; } task f(x: map(once), n: int) { put x [n] n; if n > 1 { spawn f(x, n - 1); } }"
	}
	testLimit(t, keys("[1] 1"), []int{40}, api.OK)
	testLimit(t, keys("[1] 2"), []int{40}, api.ErrFail)
	testLimit(t, keys("[0] 2"), []int{40}, api.ErrLimit)
	both := "task main(n: int) { new x: map(map(once)); all { spawn f(x, n); } put x LAST; } task f(x: map(map(once)), n: int) { put x [0] [n] n; if n > 1 { spawn f(x, n - 1); } }"
	for last, want := range map[string]api.Errno{"[1] [1] 2": api.OK, "[0] [1] 2": api.ErrFail, "[0] [0] 1": api.ErrLimit} {
		testLimit(t, strings.Replace(both, "LAST", last, 1), []int{40}, want)
	}
	// A pair of a full set and a once: both in one put.
	pair := "task main(n: int) { new x: pair(set, once); put x pair(, 1); all { spawn f(x, n); } put x LAST; } task f(x: pair(set, once), n: int) { put x pair({n}, ); if n > 1 { spawn f(x, n - 1); } }"
	for last, want := range map[string]api.Errno{"pair({1}, 1)": api.OK, "pair({1}, 2)": api.ErrFail, "pair({0}, 1)": api.ErrLimit, "pair({0}, 2)": api.ErrLimit} {
		testLimit(t, strings.Replace(pair, "LAST", last, 1), []int{40}, want)
	}
	// A key whose task is one too many, and what is wrong.
	tasks := "task main(n: int) { new x: map(pair(once, once)); all { put x [1] pair(1, ); each x as k { } spawn f(n); } all { each x as m { } put x LAST; } } task f(n: int) { if n > 1 { spawn f(n - 1); } }"
	for last, want := range map[string]api.Errno{"[1] pair(1, 1)": api.OK, "[1] pair(2, )": api.ErrFail, "[2] pair(2, )": api.ErrLimit} {
		testLimit(t, strings.Replace(tasks, "LAST", last, 1), []int{197}, want)
	}
	wrong := lText + "task main(n: int) { new x: map(l); all { spawn f(n); } all { each x as k { } put x [1] #LAST; } } task f(n: int) { if n > 1 { spawn f(n - 1); } }"
	for last, want := range map[string]api.Errno{"b": api.ErrLimit, "d": api.ErrFail} {
		testLimit(t, strings.Replace(wrong, "LAST", last, 1), []int{199}, want)
	}
	testLimit(t, strings.Replace(wrong, "LAST", "b", 1), []int{198}, api.OK)
}

// As many parts as a program can have: items, parameters, statements, cases, exprs of a point, nodes one in the other.
func TestGreatest(t *testing.T) {
	var text strings.Builder
	text.WriteString("lattice t { e0")
	for i := 1; i < api.MaxElems; i++ {
		text.WriteString(": e" + strconv.Itoa(i) + "; e" + strconv.Itoa(i))
	}
	text.WriteString(" } task main(a: int, b: int, c: int, d: int, e: int) { share x: t; share y: set; put y {a, b, c, d}; put x #e11; when x #e11 { spawn f1(a, b, c, d, y); } ")
	text.WriteString(strings.Repeat("all { ", 10) + "fail 1; " + strings.Repeat("} ", 10) + "} ")
	for i := 1; i < 14; i++ {
		n := strconv.Itoa(i)
		text.WriteString("task f" + n + "(a: int, b: int, c: int, d: int, y: set) { put y {a * 10, d * 10}; spawn f" + strconv.Itoa(i+1) + "(b, c, d, a + 1, y); } ")
	}
	text.WriteString("task f14(a: int, b: int, c: int, d: int, y: set) { put y {a, b, c, d}; fail a; }")
	u := mustParse(t, text.String())
	mustBeProgram(t, u)
	o := mustRun(t, u, []int{1, 2, 3, 4, 5})
	if o.Tasks != 15 || o.Steps != 6+1+13*2+2 || !same(o.Fails, []int{1, 5}) || elemText(o.Vars[0].E) != "#11" {
		t.Errorf("Run: %v", o)
	}
}
