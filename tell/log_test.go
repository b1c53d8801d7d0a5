package tell_test

import (
	"slices"
	"strings"
	"testing"

	"dripstone/api"
	"dripstone/tell"
)

// testLog compares a history with what is to happen, line by line: events (task, word, node: Var N E), then tasks (path, home, By).
func testLog(t *testing.T, text string, in []int, want string) {
	t.Helper()
	u := mustParse(t, text)
	mustBeProgram(t, u)
	if got, want := logText(u, mustLog(t, u, in)), strings.TrimLeft(want, "\n"); got != want {
		t.Errorf("Log of %s:\n%s\nand not\n%s", text, got, want)
	}
}

// P6.3: events of all kinds.
func TestEvents(t *testing.T) {
	testLog(t, "task main() { }", nil, `
0 end task main: 0 0 none
[] task main by -1
`)
	testLog(t, lText+"task main(n: int) { new x: set; share y: pair(l, map(max)); let m = n - 1; put x {m, n}; put y pair(#c, [n] m); spawn f(y, n); all { all { spawn g(); } } freeze x as z; when y pair(#c, [n] m) { } if size(z) { fail n; } } task f(y: pair(l, map(max)), n: int) { put y pair(, [n] n * n); } task g() { }", []int{3}, `
0 make new x: 0 0 none
0 make share y: 1 0 none
0 step let m: 0 2 none
0 join put x: 0 0 {2, 3}
0 join put y: 1 0 (#2, [3: 2])
0 spawn spawn f: 0 1 none
0 spawn spawn g: 0 2 none
2 end task g: 0 0 none
0 quiet all: 0 0 none
0 quiet all: 0 0 none
0 read freeze x: 0 0 {2, 3}
0 wake when y: 1 0 (#2, [3: 2])
0 step if: 0 2 none
0 fail fail: 0 3 none
1 join put y: 1 0 (none, [3: 9])
1 end task f: 0 0 none
[] task main by -1
[{2 0}] task f by 5
[{5 0}] task g by 6
`)
	testLog(t, "task main() { share x: once; spawn f(x); when x 4 { } or 5 { let a = -7; } or 6 { } } task f(y: once) { put y 5; if 0 { } fail 1 / 0; }", nil, `
0 make share x: 0 0 none
0 spawn spawn f: 0 1 none
1 join put y: 0 0 5
0 wake when x: 0 1 5
0 step let a: 0 -7 none
0 end task main: 0 0 none
1 step if: 0 0 none
1 fail /: 0 -1 none
[] task main by -1
[{1 0}] task f by 1
`)
}

// P6.3: what comes behind what of one statement.
func TestEventOrder(t *testing.T) {
	// Two look-outs, of which the tasks of one end at once; the put is the last statement of its task.
	testLog(t, "task main() { new x: set; put x {9, -9}; all { each x as a { } each x as b { fail b; } spawn f(x); } } task f(x: set) { put x {9, 5, 7}; }", nil, `
0 make new x: 0 0 none
0 join put x: 0 0 {-9, 9}
0 each each x: 0 0 none
0 key each x: 0 -9 none
1 end each x: 0 0 none
0 key each x: 0 9 none
2 end each x: 0 0 none
0 each each x: 0 0 none
0 key each x: 0 -9 none
0 key each x: 0 9 none
0 spawn spawn f: 0 5 none
3 fail fail: 0 -9 none
4 fail fail: 0 9 none
5 join put x: 0 0 {5, 7, 9}
0 key each x: 0 5 none
6 end each x: 0 0 none
0 key each x: 0 7 none
7 end each x: 0 0 none
0 key each x: 0 5 none
0 key each x: 0 7 none
5 end task f: 0 0 none
8 fail fail: 0 5 none
9 fail fail: 0 7 none
0 quiet all: 0 0 none
0 end task main: 0 0 none
[] task main by -1
[{2 -9}] each x by 3
[{2 9}] each x by 5
[{3 -9}] each x by 8
[{3 9}] each x by 9
[{4 0}] task f by 10
[{2 5}] each x by 14
[{2 7}] each x by 16
[{3 5}] each x by 18
[{3 7}] each x by 19
`)
	// A task ends by an if, a when, or a pool at its end; by a spawn, behind the end of the new task; or by what it puts into what it looks out for.
	testLog(t, "task main() { share x: flag; put x on; spawn a(x); spawn b(); spawn c(); spawn d(); } task a(x: flag) { when x on { if 0 { fail 1; } } } task b() { all { spawn e(); } } task c() { if 1 { spawn e(); } } task d() { all { new x: set; each x as k { } put x {1}; } } task e() { }", nil, `
0 make share x: 0 0 none
0 join put x: 0 0 on
0 spawn spawn a: 0 1 none
0 spawn spawn b: 0 2 none
0 spawn spawn c: 0 3 none
0 spawn spawn d: 0 4 none
0 end task main: 0 0 none
1 wake when x: 0 0 on
1 step if: 0 0 none
1 end task a: 0 0 none
2 spawn spawn e: 0 5 none
5 end task e: 0 0 none
2 quiet all: 0 0 none
2 end task b: 0 0 none
3 step if: 0 1 none
3 spawn spawn e: 0 6 none
6 end task e: 0 0 none
3 end task c: 0 0 none
4 make new x: 1 0 none
4 each each x: 1 0 none
4 join put x: 1 0 {1}
4 key each x: 1 1 none
7 end each x: 0 0 none
4 quiet all: 0 0 none
4 end task d: 0 0 none
[] task main by -1
[{1 0}] task a by 2
[{2 0}] task b by 3
[{3 0}] task c by 4
[{4 0}] task d by 5
[{2 0} {1 0}] task e by 10
[{3 0} {0 0}] task e by 15
[{4 0} {2 1}] each x by 21
`)
	// The tasks of keys in a failed task's pool.
	testLog(t, "task main() { new x: set; all { spawn f(x); each x as k { let a = k; } fail 2; } } task f(x: set) { put x {3}; }", nil, `
0 make new x: 0 0 none
0 spawn spawn f: 0 1 none
0 each each x: 0 0 none
0 fail fail: 0 2 none
1 join put x: 0 0 {3}
0 key each x: 0 3 none
1 end task f: 0 0 none
2 step let a: 0 3 none
2 end each x: 0 0 none
[] task main by -1
[{2 0}] task f by 1
[{3 3}] each x by 5
`)
}

// P6.3: variables have numbers in the order in which they come, and their values are those at the end.
func TestLogVars(t *testing.T) {
	u := mustParse(t, "task main() { spawn f(2); share x: max; put x 1; spawn f(1); put x 2; new y: set; } task f(n: int) { share z: pair(max, once); share w: map(set); put z pair(, n); }")
	h := mustLog(t, u, nil)
	want := []api.VarState{
		{Site: 1, Shape: api.Shape{Kind: api.ShapeMax}, E: api.Elem{Kind: api.ElemInt, N: 2}},
		{Site: 3, Shape: api.Shape{Kind: api.ShapeSet}},
	}
	for i, path := range [][]api.Hop{{{Site: 0}}, {{Site: 2}}} {
		want = append(want,
			api.VarState{Path: path, Site: 0, Shape: api.Shape{Kind: api.ShapePair, Kids: []api.Shape{{Kind: api.ShapeMax}, {Kind: api.ShapeOnce}}}, E: api.Elem{Kind: api.ElemPair, Kids: []api.Elem{{}, {Kind: api.ElemInt, N: 2 - i}}}},
			api.VarState{Path: path, Site: 1, Shape: api.Shape{Kind: api.ShapeMap, Kids: []api.Shape{{Kind: api.ShapeSet}}}})
	}
	if !same(h.Vars, want) {
		t.Errorf("Log: the variables are %v, and not %v", h.Vars, want)
	}
}

// P6.4: the outcomes after each number of steps.
func TestAfter(t *testing.T) {
	u := mustParse(t, "task main() { share x: once; spawn f(x); all { spawn g(); let a = 1 / 0; } } task f(y: once) { let b = 2; when y 1 { share z: max; } } task g() { fail 1; }")
	for steps, want := range []api.Outcome{
		{Tasks: 1},
		{Vars: []api.VarState{{Shape: api.Shape{Kind: api.ShapeOnce}}}, Tasks: 1, Steps: 1},
		{Vars: []api.VarState{{Shape: api.Shape{Kind: api.ShapeOnce}}}, Tasks: 2, Steps: 2},
		// With the third step comes what fails behind it.
		{Vars: []api.VarState{{Shape: api.Shape{Kind: api.ShapeOnce}}}, Fails: []int{-1}, Tasks: 3, Steps: 3},
		{Vars: []api.VarState{{Shape: api.Shape{Kind: api.ShapeOnce}}}, Fails: []int{-1}, Waits: []api.Wait{{Path: []api.Hop{{Site: 1}}, Site: 0}}, Tasks: 3, Steps: 4},
		{Vars: []api.VarState{{Shape: api.Shape{Kind: api.ShapeOnce}}}, Fails: []int{-1, 1}, Waits: []api.Wait{{Path: []api.Hop{{Site: 1}}, Site: 0}}, Tasks: 3, Steps: 5},
	} {
		if o, e := tell.After(u, nil, steps); e != api.OK || !same(o, want) {
			t.Errorf("After %d: %v, %v, and not %v", steps, o, e, want)
		}
	}
	for _, steps := range []int{6, 4000, 4001, 1 << 40, 1<<63 - 1} {
		if o, e := tell.After(u, nil, steps); e != api.OK || !same(o, mustRun(t, u, nil)) {
			t.Errorf("After %d: %v, %v", steps, o, e)
		}
	}
	// What fails at the beginning; the failures of several tasks behind one step.
	u = mustParse(t, "task main(n: int) { if 1 / n { spawn f(); spawn f(); } fail 3; } task f() { let a = 1 / 0; }")
	if o, e := tell.After(u, []int{0}, 0); e != api.OK || !same(o, api.Outcome{Fails: []int{-1}, Tasks: 1}) {
		t.Errorf("After 0: %v, %v", o, e)
	}
	for steps, want := range []api.Outcome{{Tasks: 1}, {Tasks: 1, Steps: 1}, {Tasks: 2, Steps: 2}, {Tasks: 3, Steps: 3}, {Fails: []int{-1, -1, 3}, Tasks: 3, Steps: 4}} {
		if o, e := tell.After(u, []int{1}, steps); e != api.OK || !same(o, want) {
			t.Errorf("After %d: %v, %v, and not %v", steps, o, e, want)
		}
	}
	// The task of a pool, and the one that waits in it; a task that can go on does not wait.
	u = mustParse(t, "task main() { share x: flag; all { spawn f(x); } } task f(x: flag) { when x on { } }")
	wait := []api.Wait{{Site: 1}, {Path: []api.Hop{{Site: 2}}, Site: 0}}
	if o, e := tell.After(u, nil, 2); e != api.OK || !same(o.Waits, wait) {
		t.Errorf("After 2: %v, %v", o, e)
	}
	u = mustParse(t, "task main() { share x: flag; spawn f(x); all { } put x on; } task f(x: flag) { when x on { } }")
	for steps, want := range [][]api.Wait{nil, nil, {{Path: []api.Hop{{Site: 1}}, Site: 0}}, {{Path: []api.Hop{{Site: 1}}, Site: 0}}, nil, nil} {
		if o, e := tell.After(u, nil, steps); e != api.OK || !same(o.Waits, want) {
			t.Errorf("After %d: %v, %v", steps, o, e)
		}
	}
}

// P6.4: an error that comes later is none yet.
func TestAfterError(t *testing.T) {
	for _, x := range []struct {
		text  string
		steps int
		want  api.Errno
	}{
		{"task main() { share x: once; put x 1; put x 2; }", 2, api.ErrFail},
		{"task main() { spawn main(); }", 199, api.ErrLimit},
		{lText + "task main() { share x: l; spawn f(x); put x #b; } task f(x: l) { when x #b { put x #c; } }", 4, api.ErrFail},
	} {
		u := mustParse(t, x.text)
		for steps := range x.steps + 3 {
			o, e := tell.After(u, nil, steps)
			if steps <= x.steps && (e != api.OK || o.Steps != steps) || steps > x.steps && (e != x.want || !same(o, api.Outcome{})) {
				t.Errorf("After %d of %s: %v, %v", steps, x.text, o, e)
			}
		}
	}
}

// P6.6: how many steps there are at each node.
func TestTimes(t *testing.T) {
	u := mustParse(t, "task main() { new x: set; all { put x {1, 2}; each x as k { if k > 1 { fail k; } let a = 1 / (k - 1); } spawn f(x); spawn f(x); } freeze x as y; if 0 { fail 1; } fail 1 / 0; } task f(x: set) { put x {3}; }")
	mustBeProgram(t, u)
	want := map[uint8][]int{
		api.NewStmt: {1}, api.AllStmt: {1}, api.PutStmt: {1, 2}, api.EachStmt: {1}, api.IfStmt: {3, 1}, api.FailStmt: {2, 0, 0}, api.LetStmt: {0}, api.SpawnStmt: {1, 1}, api.FreezeStmt: {1},
	}
	times, e := tell.Times(u, nil)
	if e != api.OK || len(times) != len(u.Nodes) {
		t.Fatalf("Times: %v, %v", times, e)
	}
	for node, n := range u.Nodes {
		if _, ok := want[n.Kind]; !ok && times[node] != 0 {
			t.Errorf("Times: %d at the node %d", times[node], node)
		}
	}
	for kind, l := range want {
		var got []int
		for _, node := range ofKind(u, kind) {
			got = append(got, times[node])
		}
		if !slices.Equal(got, l) {
			t.Errorf("Times at %s: %v, and not %v", kindNames[kind], got, l)
		}
	}
}

// P6.6: the paths of all tasks, ascending.
func TestPaths(t *testing.T) {
	for text, want := range map[string][][]api.Hop{
		"task main() { }": {nil},
		"task main() { if 1 { spawn f(); } else { spawn f(); } spawn g(); spawn f(); } task f() { } task g() { spawn f(); spawn f(); }": {nil, {{Site: 0}}, {{Site: 2}}, {{Site: 2}, {Site: 0}}, {{Site: 2}, {Site: 1}}, {{Site: 3}}},
		"task main() { new x: set; all { put x {30, -4, 0}; each x as k { spawn f(); } spawn f(); put x {2}; } } task f() { }": {nil,
			{{Site: 2, Piece: -4}}, {{Site: 2, Piece: -4}, {Site: 3}}, {{Site: 2}}, {{Site: 2}, {Site: 3}}, {{Site: 2, Piece: 2}}, {{Site: 2, Piece: 2}, {Site: 3}}, {{Site: 2, Piece: 30}}, {{Site: 2, Piece: 30}, {Site: 3}}, {{Site: 4}}},
	} {
		u := mustParse(t, text)
		if l, e := tell.Paths(u, nil); e != api.OK || !same(l, want) {
			t.Errorf("Paths of %s: %v, %v, and not %v", text, l, e, want)
		}
	}
}
