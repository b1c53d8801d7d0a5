package tell_test

import (
	"testing"

	"dripstone/api"
	"dripstone/tell"
)

// P6.1, P6.2, P6.5: the chapter's examples.
func TestExamples(t *testing.T) {
	testAll(t, []example{
		comes("task main() { share x: set; put x {2, 1}; }", "tasks 1, steps 2", "var main 0 set = {1, 2}"),
		comes("task main() { share x: once; when x 1 { fail 7; } }", "tasks 1, steps 1", "var main 0 once = none", "wait main 1"),
		comes("task main() { share x: once; put x 1; when x 1 { fail 7; } }", "tasks 1, steps 4", "var main 0 once = 1", "fail 7"),
		breaks("task main() { share x: once; put x 1; put x 2; when x 1 { fail 7; } }", api.ErrFail),
		{exampleText, []int{2}, "tasks 5, steps 12\nvar main 0 set = {0, 1, 2}\nfail 3\n", api.OK},
		breaks("task main() { spawn main(); }", api.ErrLimit),
	})
}

// P6.1: what the statements do, and how many steps that is.
func TestStatements(t *testing.T) {
	testAll(t, []example{
		comes("task main() { }", "tasks 1, steps 0"),
		comes("task f() { share x: max; } task main() { }", "tasks 1, steps 0"),
		{"task main(a: int, b: int, c: int, d: int, e: int) { fail a * 10000 + b * 1000 + c * 100 + d * 10 + e; }", []int{1, 2, 3, 4, 5}, "tasks 1, steps 1\nfail 12345\n", api.OK},
		{"task main(n: int) { fail n; }", []int{-1000000000}, "tasks 1, steps 1\nfail -1000000000\n", api.OK},
		{"task main(n: int) { fail n; }", []int{1000000000}, "tasks 1, steps 1\nfail 1000000000\n", api.OK},
		comes(lText+"task main() { new a: flag; share b: max; new c: set; share d: once; new e: l; share f: map(l); new g: pair(flag, map(set)); }", "tasks 1, steps 7",
			"var main 0 flag = none", "var main 1 max = none", "var main 2 set = none", "var main 3 once = none", "var main 4 l = none", "var main 5 map(l) = none", "var main 6 pair(flag, map(set)) = none"),
		comes("task main() { let a = 2; let b = a * a; let c = b + a; fail c - b; }", "tasks 1, steps 4", "fail 2"),
		comes("task main() { fail 1; fail 2; share x: set; }", "tasks 1, steps 1", "fail 1"),
		comes("task main() { fail 0; }", "tasks 1, steps 1", "fail 0"),
		// if
		comes("task main() { if 1 { fail 1; } else { fail 2; } fail 3; }", "tasks 1, steps 2", "fail 1"),
		comes("task main() { if 0 { fail 1; } else { fail 2; } fail 3; }", "tasks 1, steps 2", "fail 2"),
		comes("task main() { if -1 { let a = 1; } else { fail 2; } fail 3; }", "tasks 1, steps 3", "fail 3"),
		comes("task main() { if 0 { fail 1; } fail 3; }", "tasks 1, steps 2", "fail 3"),
		comes("task main() { if 0 { fail 1; } }", "tasks 1, steps 1"),
		comes("task main() { if 1 { } if 0 { } if 1 { } else { } if 0 { } else { } }", "tasks 1, steps 4"),
		comes("task main() { if 1 { if 1 { if 0 { } else { if 1 { let a = 1; } } } let b = 2; } let c = 3; }", "tasks 1, steps 7"),
		// when
		comes("task main() { share x: once; put x 2; when x 1 { fail 1; } or 2 { fail 2; } or 3 { fail 3; } }", "tasks 1, steps 4", "var main 0 once = 2", "fail 2"),
		comes("task main() { share x: once; when x 1 { fail 1; } or 2 { fail 2; } }", "tasks 1, steps 1", "var main 0 once = none", "wait main 1"),
		comes("task main() { share x: once; put x 3; when x 1 { } or 2 { } fail 1; }", "tasks 1, steps 2", "var main 0 once = 3", "wait main 1"),
		comes("task main() { share x: flag; put x on; when x on { when x on { } let a = 1; } let b = 2; when x on { } }", "tasks 1, steps 7", "var main 0 flag = on"),
		comes("task main() { new x: max; put x 3; when x 2 { put x 5; } when x 5 { } when x 6 { put x 7; } }", "tasks 1, steps 5", "var main 0 max = 5", "wait main 3"),
		comes("task main() { share x: pair(once, once); put x pair(, 4); when x pair(1, ) { fail 1; } or pair(2, ) { fail 2; } }", "tasks 1, steps 2", "var main 0 pair(once, once) = (none, 4)", "wait main 1"),
		comes("task main() { share x: pair(once, once); put x pair(, 4); put x pair(2, ); when x pair(1, ) { fail 1; } or pair(2, 4) { fail 2; } }", "tasks 1, steps 5", "var main 0 pair(once, once) = (2, 4)", "fail 2"),
		// put
		comes("task main() { new x: set; put x {1}; put x {1}; put x {1, 1, 1}; }", "tasks 1, steps 4", "var main 0 set = {1}"),
		breaks(lText+"task main() { new x: l; put x #d; }", api.ErrFail),
		breaks(lText+"task main() { new x: map(l); put x [1] #b; put x [2] #c; put x [1] #c; }", api.ErrFail),
		breaks(tintText+"task main() { new x: pair(max, tint); put x pair(1, #both); }", api.ErrFail),
		breaks("task main() { new x: map(pair(set, once)); put x [1] pair(, 1); put x [2] pair(, 2); put x [1] pair({1}, 2); }", api.ErrFail),
		comes(lText+"task main() { new x: map(l); put x [1] #b; put x [2] #c; put x [1] #b; }", "tasks 1, steps 4", "var main 0 map(l) = [1: #b, 2: #c]"),
		// freeze: what it was, and stays
		comes("task main() { new x: set; freeze x as a; new y: set; put y {7}; freeze y as b; if 1 { new z: set; put z {1, 2, 3}; freeze z as c; fail size(a) * 100 + size(b) * 10 + size(c); } }", "tasks 1, steps 10",
			"var main 0 set = none", "var main 2 set = {7}", "var main 4 set = {1, 2, 3}", "fail 13"),
	})
}

// P6.1: tasks that are spawned: what their names stand for, their paths, and that of their variables.
func TestSpawned(t *testing.T) {
	testAll(t, []example{
		comes("task main() { spawn f(); spawn f(); } task f() { }", "tasks 3, steps 2"),
		comes("task main() { spawn f(1, 2); spawn f(2, 3); } task f(a: int, b: int) { fail a * 10 + b; }", "tasks 3, steps 4", "fail 12", "fail 23"),
		comes("task main() { spawn f(2); spawn f(-3); spawn f(2); spawn f(1); } task f(a: int) { fail a; }", "tasks 5, steps 8", "fail -3", "fail 1", "fail 2", "fail 2"),
		comes("task main() { share x: set; share y: set; spawn f(x, 1, y); spawn f(y, 2, x); } task f(a: set, n: int, b: set) { put a {n}; put b {n + 10}; }", "tasks 3, steps 8", "var main 0 set = {1, 12}", "var main 1 set = {2, 11}"),
		comes("task main() { share x: max; spawn f(x, x); } task f(a: max, b: max) { put a 1; when b 1 { put b 2; } }", "tasks 2, steps 5", "var main 0 max = 2"),
		comes("task main() { share x: max; let n = 5; spawn f(x, n + 1); } task f(n: max, x: int) { put n x; share y: max; }", "tasks 2, steps 5", "var main 0 max = 6", "var main/1:0 0 max = none"),
		{"task main(n: int) { share x: set; if n > 0 { spawn main(n - 1); } }", []int{2}, "tasks 3, steps 8\nvar main 0 set = none\nvar main/1:0 0 set = none\nvar main/1:0/1:0 0 set = none\n", api.OK},
		// A task waits for what another one does, and that one for what this does.
		comes("task main() { share x: max; share y: max; spawn f(x, y); put x 1; when y 1 { put x 2; when y 2 { put x 3; } } } task f(a: max, b: max) { when a 1 { put b 1; when a 2 { put b 2; when a 4 { } } } }", "tasks 2, steps 12", "var main 0 max = 3", "var main 1 max = 2", "wait main/2:0 2"),
		// Neither the end nor the failure of a task ends one that it spawned.
		comes("task main() { share x: flag; spawn f(x); fail 1; } task f(x: flag) { spawn g(x); put x on; } task g(x: flag) { when x on { fail 2; } }", "tasks 3, steps 7", "var main 0 flag = on", "fail 1", "fail 2"),
		// Sites are counted in the text of the item.
		comes("task main() { if 1 { spawn f(); } else { spawn f(); } spawn f(); } task f() { if 0 { new a: set; } share b: set; }", "tasks 3, steps 7", "var main/0:0 1 set = none", "var main/2:0 1 set = none"),
		// Paths that are compared: site by site, then piece; the shorter one first.
		comes("task main() { new x: set; share a: max; all { put x {3, -2, 10}; each x as k { share v: max; spawn f(k); } spawn f(0); spawn f(5); } share z: max; } task f(k: int) { share w: max; if k > 5 { spawn f(0); } }", "tasks 10, steps 27",
			"var main 0 set = {-2, 3, 10}", "var main 1 max = none", "var main 8 max = none", "var main/3:-2 4 max = none", "var main/3:-2/5:0 0 max = none", "var main/3:3 4 max = none", "var main/3:3/5:0 0 max = none",
			"var main/3:10 4 max = none", "var main/3:10/5:0 0 max = none", "var main/3:10/5:0/1:0 0 max = none", "var main/6:0 0 max = none", "var main/7:0 0 max = none"),
	})
}

// P6.1: pools.
func TestPools(t *testing.T) {
	testAll(t, []example{
		comes("task main() { all { } }", "tasks 1, steps 1"),
		comes("task main() { all { all { } all { } } all { } }", "tasks 1, steps 4"),
		comes("task main() { all { let a = 1; all { let b = 2; } let c = 3; } let d = 4; }", "tasks 1, steps 6"),
		// What is in a pool has ended when it is closed.
		comes("task main() { new x: max; all { spawn f(x, 3); } freeze x as y; fail value(y, 0); } task f(x: max, n: int) { if n > 0 { spawn f(x, n - 1); } put x 10 - n; }", "tasks 5, steps 16", "var main 0 max = 10", "fail 10"),
		// It waits for a member of a member, but not for one that was spawned before it, or behind it.
		comes("task main() { share x: flag; spawn f(x); all { spawn g(0); } put x on; spawn f(x); } task f(x: flag) { when x on { } } task g(n: int) { if n < 3 { spawn g(n + 1); } }", "tasks 7, steps 15", "var main 0 flag = on"),
		comes("task main() { share x: flag; spawn f(x); all { spawn g(); } } task f(x: flag) { when x on { } } task g() { }", "tasks 3, steps 4", "var main 0 flag = none", "wait main/1:0 0"),
		// A member that waits for ever: so does the task of the pool; that which has failed does not.
		comes("task main() { share x: flag; all { spawn f(x); } put x on; } task f(x: flag) { when x on { } }", "tasks 2, steps 2", "var main 0 flag = none", "wait main 1", "wait main/2:0 0"),
		comes("task main() { share x: flag; all { spawn f(x); } put x on; } task f(x: flag) { fail 3; when x on { } }", "tasks 2, steps 5", "var main 0 flag = on", "fail 3"),
		comes("task main() { share x: flag; all { spawn f(x); } put x on; } task f(x: flag) { let a = 1 / 0; when x on { } }", "tasks 2, steps 4", "var main 0 flag = on", "fail -1"),
		// A member of an inner pool is one of the outer one. The task of the inner one is no member of it.
		comes("task main() { share x: flag; all { all { spawn f(x); } let a = 1; } } task f(x: flag) { when x on { } }", "tasks 2, steps 2", "var main 0 flag = none", "wait main 2", "wait main/3:0 0"),
		comes("task main() { share x: flag; share y: flag; all { spawn f(x, y); all { } put x on; all { } } when y on { } } task f(x: flag, y: flag) { when x on { put y on; } }", "tasks 2, steps 10", "var main 0 flag = on", "var main 1 flag = on"),
		comes("task main() { share x: flag; all { spawn f(x); } } task f(x: flag) { all { spawn g(x); } fail 2; } task g(x: flag) { spawn h(x); } task h(x: flag) { when x on { } }", "tasks 4, steps 4", "var main 0 flag = none", "wait main 1", "wait main/2:0 0", "wait main/2:0/1:0/0:0 0"),
		// A task that fails in its pool does not close it, and its members go on; the outer pool waits for these.
		comes("task main() { share x: max; all { spawn f(x); } put x 9; } task f(x: max) { all { spawn g(x); fail 4; } put x 1; } task g(x: max) { put x 2; all { } put x 3; }", "tasks 3, steps 9", "var main 0 max = 9", "fail 4"),
		comes("task main() { share x: max; all { spawn f(x); } put x 9; } task f(x: max) { all { spawn g(x); fail 4; } put x 1; } task g(x: max) { put x 2; when x 3 { } }", "tasks 3, steps 5", "var main 0 max = 2", "fail 4", "wait main 1", "wait main/2:0/1:0 0"),
		// A pool in a block of a case, of an if, and of a task for a key.
		comes("task main() { share x: once; put x 1; when x 1 { all { spawn f(); } let a = 1; } if 0 { } else { all { spawn f(); } } } task f() { let b = 2; }", "tasks 3, steps 11", "var main 0 once = 1"),
		comes("task main() { new x: set; all { put x {1, 2}; each x as k { new y: max; all { spawn f(y, k); } freeze y as z; fail value(z, 0); } } } task f(y: max, k: int) { put y k * k; }", "tasks 5, steps 16", "var main 0 set = {1, 2}", "var main/2:1 3 max = 1", "var main/2:2 3 max = 4", "fail 1", "fail 4"),
	})
}

// P6.1: look-outs.
func TestLookOuts(t *testing.T) {
	testAll(t, []example{
		comes("task main() { new x: set; all { each x as k { } } put x {1}; }", "tasks 1, steps 4", "var main 0 set = {1}"),
		comes("task main() { new x: set; put x {5, 3}; all { each x as k { fail k; } } }", "tasks 3, steps 6", "var main 0 set = {3, 5}", "fail 3", "fail 5"),
		comes("task main() { new x: set; put x {5}; all { each x as k { fail k; } put x {3, 5}; } put x {4}; }", "tasks 3, steps 8", "var main 0 set = {3, 4, 5}", "fail 3", "fail 5"),
		comes("task main() { new x: map(set); all { put x [5] {1}; each x as k { fail k; } put x [3] {2}; put x [5] {3}; put x [3] {2}; } put x [9] {1}; }", "tasks 3, steps 10", "var main 0 map(set) = [3: {2}, 5: {1, 3}, 9: {1}]", "fail 3", "fail 5"),
		// What names stand for in the task of a key.
		comes("task main() { let a = 1; new x: set; share y: set; new z: set; put z {8, 9}; freeze z as w; all { let b = 2; put x {10}; each x as k { let c = k + a * 100 + b * 1000 + size(w); put y {c}; fail c; } } let d = 3; }", "tasks 2, steps 14", "var main 0 set = {10}", "var main 1 set = {2112}", "var main 2 set = {8, 9}", "fail 2112"),
		// Several look-outs for one variable: each has tasks of its own.
		comes("task main() { new x: set; all { each x as a { fail a; } put x {1}; each x as b { fail b + 10; } put x {2}; } }", "tasks 5, steps 10", "var main 0 set = {1, 2}", "fail 1", "fail 2", "fail 11", "fail 12"),
		// One that begins in an inner pool is over when that is closed.
		comes("task main() { new x: set; all { all { put x {1}; each x as a { fail a; } } put x {2}; } all { each x as b { fail b + 10; } } put x {3}; }", "tasks 4, steps 12", "var main 0 set = {1, 2, 3}", "fail 1", "fail 11", "fail 12"),
		// What the tasks of keys put in brings tasks, too.
		comes("task main() { new x: set; all { put x {12}; each x as k { if k > 1 { put x {k / 2}; } } } freeze x as y; fail size(y); }", "tasks 5, steps 13", "var main 0 set = {1, 3, 6, 12}", "fail 4"),
		comes("task main() { new x: set; new y: set; all { each x as a { put y {a + 1}; } each y as b { if b < 5 { put x {b + 1}; } } put x {0}; } }", "tasks 7, steps 14", "var main 0 set = {0, 2, 4}", "var main 1 set = {1, 3, 5}"),
		// A task that fails leaves its look-outs behind; what they bring belongs to outer pools, too.
		comes("task main() { share s: set; all { spawn f(s); } fail 1; } task f(s: set) { new x: set; all { spawn g(x); each x as k { put s {k}; } fail 7; } } task g(x: set) { all { } put x {1}; put x {2}; }", "tasks 5, steps 13", "var main 0 set = {1, 2}", "var main/2:0 0 set = {1, 2}", "fail 1", "fail 7"),
		comes("task main() { share s: flag; all { spawn f(s); } fail 1; } task f(s: flag) { new x: set; all { spawn g(x); each x as k { when s on { } } let a = 1 / 0; } } task g(x: set) { all { } put x {1}; }", "tasks 4, steps 7", "var main 0 flag = none", "var main/2:0 0 set = {1}", "fail -1", "wait main 1", "wait main/2:0/3:1 4"),
		// A look-out in the task of a key.
		comes("task main() { new x: set; all { put x {1, 2}; each x as a { new y: set; all { put y {a, 3}; each y as b { fail a * 10 + b; } } } } }", "tasks 7, steps 16", "var main 0 set = {1, 2}", "var main/2:1 3 set = {1, 3}", "var main/2:2 3 set = {2, 3}", "fail 11", "fail 13", "fail 22", "fail 23"),
		// Tasks of keys without statements.
		comes("task main() { new x: set; all { put x {1, 2, 3}; each x as k { } put x {4}; } }", "tasks 5, steps 5", "var main 0 set = {1, 2, 3, 4}"),
	})
}

// P6.5: a value that would have more than 2500 bytes has no text.
func TestLongText(t *testing.T) {
	u := mustParse(t, "task main(n: int) { share x: map(set); spawn f(x, 0); put x [n] {100000000, 100000001, 100000002, 1}; } "+
		"task f(x: map(set), i: int) { let a = 100000000 + i * 4; put x [i / 10] {a, a + 1, a + 2, a + 3}; if i < 54 { spawn f(x, i + 1); } }")
	for n, length := range map[int]int{999999999: 2499, 1000000000: 2500, -999999999: 2500, -1000000000: 2501} {
		text := elemText(mustRun(t, u, []int{n}).Vars[0].E)
		if len(text) != length {
			t.Fatalf("with %d the value has %d bytes", n, len(text))
		}
		if length > api.MaxText {
			text = ""
		}
		if s, e := tell.Tell(u, []int{n}); e != api.OK || s != "tasks 56, steps 222\nvar main 0 map(set) = "+text+"\n" {
			t.Errorf("Tell with %d: %v, %s", n, e, s)
		}
	}
}
