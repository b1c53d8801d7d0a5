package check_test

import (
	"testing"

	"dripstone/api"
	"dripstone/check"
)

// P5.1: who is own, and pools (a, b).
func TestOwn(t *testing.T) {
	for _, x := range []verdict{
		{"task f(x: set) { all { ^each x as k { } } }", api.EachStmt, api.ErrState},
		{"task f() { share x: set; all { ^each x as k { } } }", api.EachStmt, api.ErrState},
		{"task f() { new x: set; ^each x as k { } }", api.EachStmt, api.ErrState},
		{"task f() { new x: set; if 1 { ^each x as k { } } }", api.EachStmt, api.ErrState},
		{"task f() { new x: set; new y: set; all { each x as k { all { ^each y as i { } } } } }", api.EachStmt, api.ErrState},
		{"task f() { new x: set; all { each x as k { new y: set; ^each y as i { } } } }", api.EachStmt, api.ErrState},
		right("task f() { new x: set; all { each x as k { new y: set; all { each y as i { } } freeze y as z; } } freeze x as w; }"),
		right("task f() { if 1 { new x: set; all { if 2 { each x as k { } } } } }"),
		{"task f(x: set) { ^freeze x as y; }", api.FreezeStmt, api.ErrState},
		{"task f() { share x: set; ^freeze x as y; }", api.FreezeStmt, api.ErrState},
		{"task f() { new x: set; new y: max; all { each x as k { ^freeze y as z; } } }", api.FreezeStmt, api.ErrState},
		{"task f() { new x: set; all { each x as k { ^freeze x as z; } } }", api.FreezeStmt, api.ErrState},
		right("task f() { new x: flag; freeze x as y; }"),
		right("task f() { new x: flag; put x on; when x on { freeze x as y; } }"),
		// What is handed over.
		{"task f(x: set) { new y: set; spawn f(^y); }", api.NameNode, api.ErrState},
		{"task f(x: set, z: set) { new y: set; spawn f(x, ^y); }", api.NameNode, api.ErrState},
		{"task f(x: set, z: set) { new y: set; spawn f(^y, y); }", api.NameNode, api.ErrState},
		{"task f(x: set) { new y: set; all { } spawn f(^y); }", api.NameNode, api.ErrState},
		{"task f(x: set) { new y: set; all { each y as k { new z: set; spawn f(^z); } } }", api.NameNode, api.ErrState},
		right("task f(x: set) { new y: set; all { each y as k { spawn f(y); new z: set; all { spawn f(z); } } } }"),
		right("task f(x: set) { share y: set; spawn f(y); spawn f(x); }"),
		right("task f(x: set) { new y: set; all { if 1 { spawn f(y); } } }"),
		right("task f(n: int) { let a = 1; spawn f(a); }"),
	} {
		x.test(t, check.Module)
	}
}

// P5.1: what was passed on in a pool that is still open (c).
func TestPassedOn(t *testing.T) {
	const g = " use g(set);"
	for _, x := range []verdict{
		right(exampleText),
		// A freeze in the same pool, or in one within it.
		{"task f() { new x: set; all { spawn g(x); ^freeze x as y; } }" + g, api.FreezeStmt, api.ErrState},
		{"task f() { new x: set; all { spawn g(x); all { ^freeze x as y; } } }" + g, api.FreezeStmt, api.ErrState},
		{"task f() { new x: set; all { all { spawn g(x); } all { if 1 { freeze x as y; } spawn g(^x); } } }" + g, api.NameNode, api.ErrState},
		right("task f() { new x: set; all { all { spawn g(x); } freeze x as y; } }" + g),
		right("task f() { new x: set; all { all { spawn g(x); } all { all { freeze x as y; } } } }" + g),
		right("task f() { new x: set; new z: set; all { spawn g(z); freeze x as y; } }" + g),
		{"task f() { new x: set; all { all { spawn g(x); } spawn g(x); all { } ^freeze x as y; } }" + g, api.FreezeStmt, api.ErrState},
		{"task f() { new x: set; all { if 1 { spawn g(x); } else { ^freeze x as y; } } }" + g, api.FreezeStmt, api.ErrState},
		// An each: in its innermost pool it may be.
		right("task f() { new x: set; all { spawn g(x); each x as k { } each x as i { } spawn g(x); } }" + g),
		{"task f() { new x: set; all { spawn g(x); all { ^each x as k { } } } }" + g, api.EachStmt, api.ErrState},
		{"task f() { new x: set; all { spawn g(x); all { all { ^each x as k { } } } } }" + g, api.EachStmt, api.ErrState},
		{"task f() { new x: set; all { each x as i { } all { ^each x as k { } } } }", api.EachStmt, api.ErrState},
		right("task f() { new x: set; all { all { spawn g(x); each x as i { } } each x as k { } } }" + g),
		right("task f() { new x: set; all { all { each x as k { } } spawn g(x); all { } } freeze x as y; }" + g),
		{"task f() { new x: set; all { if 1 { spawn g(x); } else { all { ^each x as k { } } } } }" + g, api.EachStmt, api.ErrState},
		// An each passes on its variable, and those that nodes in its block mean.
		{"task f() { new x: set; all { each x as k { } ^freeze x as y; } }", api.FreezeStmt, api.ErrState},
		{"task f() { new x: set; new y: max; all { each x as k { put y k; } ^freeze y as z; } }", api.FreezeStmt, api.ErrState},
		{"task f() { new x: set; new y: flag; all { each x as k { when y on { } } ^freeze y as z; } }", api.FreezeStmt, api.ErrState},
		{"task f() { new x: set; new y: set; all { each x as k { spawn g(y); } ^freeze y as z; } }" + g, api.FreezeStmt, api.ErrState},
		{"task f() { new x: set; new y: set; all { each x as k { new u: set; all { each u as i { put y {i}; } } } ^freeze y as z; } }", api.FreezeStmt, api.ErrState},
		{"task f() { new x: set; new y: set; all { each x as k { put y {k}; } all { ^each y as i { } } } }", api.EachStmt, api.ErrState},
		right("task f() { new x: set; new y: set; all { each x as k { put y {k}; } each y as i { put x {i}; } } freeze x as v; freeze y as w; }"),
		right("task f() { new x: set; new y: set; all { each x as k { } freeze y as z; } }"),
		right("task f() { new x: set; new y: set; all { each x as k { new v: set; freeze v as w; } freeze y as z; } }"),
		// Of another level it is another matter: there it is that level's each which passes on.
		right("task f() { new x: set; all { each x as k { new y: set; all { spawn g(y); } freeze y as z; } } }" + g),
		{"task f() { new x: set; all { each x as k { new y: set; all { spawn g(y); ^freeze y as z; } } } }" + g, api.FreezeStmt, api.ErrState},
		{"task f() { new x: set; all { each x as k { new y: set; all { all { each y as i { } } spawn g(y); all { ^each y as j { } } } } } }" + g, api.EachStmt, api.ErrState},
		// What is passed on behind it is no matter.
		right("task f() { new x: set; all { all { each x as k { } } each x as j { } } }"),
		{"task f() { new x: set; all { freeze x as y; spawn g(^x); } }" + g, api.NameNode, api.ErrState},
	} {
		x.test(t, check.Module)
	}
}

// P5.1: what is done to a variable that was frozen (d).
func TestFrozen(t *testing.T) {
	for _, x := range []verdict{
		{"task f() { new x: flag; freeze x as y; ^put x on; }", api.PutStmt, api.ErrState},
		{"task f() { new x: flag; freeze x as y; ^when x on { } }", api.WhenStmt, api.ErrState},
		{"task f() { new x: set; freeze x as y; all { ^each x as k { } } }", api.EachStmt, api.ErrState},
		{"task f() { new x: flag; freeze x as y; ^freeze x as z; }", api.FreezeStmt, api.ErrState},
		{"task f(z: flag) { new x: flag; freeze x as y; all { spawn f(^x); } }", api.NameNode, api.ErrState},
		{"task f() { new x: flag; if 1 { freeze x as y; } ^put x on; }", api.PutStmt, api.ErrState},
		{"task f() { new x: flag; if 1 { freeze x as y; } else { ^put x on; } }", api.PutStmt, api.ErrState},
		{"task f(z: once) { new x: flag; when z 1 { freeze x as y; } or 2 { ^put x on; } }", api.PutStmt, api.ErrState},
		{"task f() { new x: flag; new v: set; freeze x as y; all { each v as k { ^put x on; } } }", api.PutStmt, api.ErrState},
		{"task f() { new v: set; all { each v as k { new x: flag; freeze x as y; if k { ^put x on; } } } }", api.PutStmt, api.ErrState},
		right("task f() { new x: flag; new v: flag; put x on; freeze x as y; put v on; freeze v as w; }"),
		right("task f() { new x: flag; freeze x as y; } task g() { new x: flag; put x on; }"),
		right("task f() { new x: set; freeze x as y; fail size(y) + has(y, size(y)); }"),
	} {
		x.test(t, check.Module)
	}
}

// P5.1: cases (e).
func TestCases(t *testing.T) {
	for _, x := range []verdict{
		{"task f(x: max) { when x 1 { } or ^2 { } }", api.CaseNode, api.ErrFalse},
		right("task f(x: once) { when x 1 { } or 2 { } or 3 { } or -1 { } }"),
		{"task f(x: once) { when x 1 { } or ^1 { } }", api.CaseNode, api.ErrFalse},
		{"task f(x: once) { when x 0 { } or ^-0 { } }", api.CaseNode, api.ErrFalse},
		{"task f(x: once) { when x 1 { } or 2 { } or ^1 { } or 2 { } }", api.CaseNode, api.ErrFalse},
		{"task f(x: once) { when x 1 { } or 2 { } or 3 { } or ^2 { } }", api.CaseNode, api.ErrFalse},
		{"task f(x: flag) { when x on { } or ^on { } }", api.CaseNode, api.ErrFalse},
		{"task f(x: set) { when x {1} { } or ^{2} { } }", api.CaseNode, api.ErrFalse},
		// What is not constant.
		{"task f(x: once, n: int) { when x ^n { } or 2 { } }", api.CaseNode, api.ErrFalse},
		{"task f(x: once, n: int) { when x 2 { } or ^n { } }", api.CaseNode, api.ErrFalse},
		{"task f(x: once) { when x 2 { } or ^1 + 2 { } }", api.CaseNode, api.ErrFalse},
		{"task f(x: once) { when x 2 { } or ^--1 { } }", api.CaseNode, api.ErrFalse},
		{"task f(x: map(once), n: int) { when x [1] 1 { } or ^[n] 2 { } }", api.CaseNode, api.ErrFalse},
		{"task f(x: map(once), n: int) { when x [1] 1 { } or ^[1] n { } }", api.CaseNode, api.ErrFalse},
		{"task f(x: pair(set, once), n: int) { when x pair(, 1) { } or ^pair({1, n}, 2) { } }", api.CaseNode, api.ErrFalse},
		right("task f(x: pair(once, set), n: int) { when x pair(n, ) { } }"),
		right("task f(x: once, n: int) { when x n { } when x n + 1 { } when x --1 { } }"),
		right("task f(x: map(set), n: int) { when x [n] {n, 1} { } }"),
		// Parts that exclude each other are enough; parts of different keys, or sides, do not.
		right("task f(x: map(once)) { when x [1] 1 { } or [1] -1 { } }"),
		{"task f(x: map(once)) { when x [1] 1 { } or ^[2] 2 { } }", api.CaseNode, api.ErrFalse},
		right("task f(x: pair(once, set)) { when x pair(1, {1}) { } or pair(2, {1}) { } or pair(3, ) { } }"),
		{"task f(x: pair(once, once)) { when x pair(1, ) { } or ^pair(, 2) { } }", api.CaseNode, api.ErrFalse},
		right("task f(x: pair(once, once)) { when x pair(1, 2) { } or pair(, 1) { } or pair(2, 2) { } }"),
		{"task f(x: pair(once, once)) { when x pair(1, 2) { } or pair(, 1) { } or ^pair(3, ) { } }", api.CaseNode, api.ErrFalse},
		// Elements that are wrong.
		right(tintText + "task f(x: tint) { when x #red { } or #blue { } }"),
		{tintText + "task f(x: tint) { when x ^#both { } }", api.CaseNode, api.ErrFalse},
		{tintText + "task f(x: tint) { when x #red { } or ^#both { } }", api.CaseNode, api.ErrFalse},
		{tintText + "task f(x: tint) { when x #red { } or ^#red { } }", api.CaseNode, api.ErrFalse},
		{tintText + "task f(x: map(tint)) { when x ^[1] #both { } }", api.CaseNode, api.ErrFalse},
		{tintText + "task f(x: map(tint), n: int) { when x ^[n] #both { } }", api.CaseNode, api.ErrFalse},
		{tintText + "task f(x: pair(max, tint), n: int) { when x ^pair(n, #both) { } }", api.CaseNode, api.ErrFalse},
		{tintText + "task f(x: pair(max, tint)) { when x pair(1, #red) { } or pair(2, #blue) { } or ^pair(3, ) { } }", api.CaseNode, api.ErrFalse},
		right(tintText + "task f(x: tint) { put x #both; }"),
		{"lattice v { o: p, q; p: t; q: t; t } task f(x: v) { when x #p { } or ^#q { } }", api.CaseNode, api.ErrFalse},
		right(lText + tintText + "task f(x: pair(tint, l)) { when x pair(#red, ) { } or pair(#blue, #b) { } }"),
	} {
		x.test(t, check.Module)
	}
}

// P5.1: the first group that has an error counts, and in it the first node.
func TestGroups(t *testing.T) {
	for _, x := range []verdict{
		// Growth, types, names; and without the last one.
		{"task f(x: set) { ^freeze x as y; }", api.FreezeStmt, api.ErrState},
		{"task f(x: set) { freeze x as y; put x ^on; }", api.OnPoint, api.ErrType},
		{"task f(x: set) { freeze x as y; put x on; fail ^a; }", api.NameNode, api.ErrName},
		{"task f(x: set) { freeze x as y; put x on; let z = 1; ^let z = 1; }", api.LetStmt, api.ErrTwice},
		{"^lattice l { a; b } task f(x: max) { when x 1 { } or 2 { } fail x; }", api.LatticeItem, api.ErrFalse},
		{"lattice l { a; b } task f(x: max) { when x 1 { } or 2 { } ^put y 1; }", api.PutStmt, api.ErrName},
		// In one group.
		{"task f(x: max) { when x 1 { } or ^2 { } freeze x as y; }", api.CaseNode, api.ErrFalse},
		{"task f(x: max) { ^freeze x as y; when x 1 { } or 2 { } }", api.FreezeStmt, api.ErrState},
		{"task f(x: max) { when x 1 { ^freeze x as y; } or 2 { } }", api.FreezeStmt, api.ErrState},
		{"task f(x: max) { fail ^x; } lattice l { a; b }", api.NameNode, api.ErrType},
		{"^lattice l { a; b } task f(x: max) { fail x; }", api.LatticeItem, api.ErrFalse},
		{"task f(x: ^map(map(map(map(max))))) { fail x; }", api.MapType, api.ErrLimit},
		{"task f() { share a: max; fail ^a; share x: map(map(map(map(max)))); }", api.NameNode, api.ErrType},
	} {
		x.test(t, check.Module)
		if x.text[0] != '^' {
			// Program has first the errors of a module.
			x.test(t, check.Program)
		}
	}
}

// P5.1: Program.
func TestProgram(t *testing.T) {
	for _, x := range []verdict{
		right(exampleText),
		right("task main() { }"),
		right("task f(x: set) { } lattice main { a } task main(a: int, b: int) { }"),
		{"^", api.ProgramNode, api.ErrNone},
		{"^task f() { }", api.ProgramNode, api.ErrNone},
		{"^use main();", api.ProgramNode, api.ErrNone},
		{"^use main(set);", api.ProgramNode, api.ErrNone},
		{"^lattice main { a }", api.ProgramNode, api.ErrNone},
		{"task main(a: int, ^b: set, c: int, d: max) { } use f();", api.ParamNode, api.ErrType},
		{"use f(); task main(^a: flag) { }", api.ParamNode, api.ErrType},
		{"task main() { } ^use f(); use g();", api.UseItem, api.ErrState},
		{"^use f(); task main(n: int) { } use g();", api.UseItem, api.ErrState},
		{"task main() { let a = ^b; } use f();", api.NameNode, api.ErrName},
		{"task f() { let a = ^b; }", api.NameNode, api.ErrName},
		{"task main(x: set) { fail ^x; }", api.NameNode, api.ErrType},
		{"task main(x: set) { ^freeze x as y; }", api.FreezeStmt, api.ErrState},
	} {
		x.test(t, check.Program)
	}
	for _, s := range []string{"", "use main();", "task main(x: set) { } use f();"} {
		right(s).test(t, check.Module)
	}
}
