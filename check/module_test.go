package check_test

import (
	"strconv"
	"strings"
	"testing"

	"dripstone/api"
	"dripstone/check"
)

// tables returns so many tables.
func tables(n int) string {
	var out strings.Builder
	for i := range n {
		out.WriteString("lattice t" + strconv.Itoa(i) + " { a } ")
	}
	return out.String()
}

// P5.1: the errors of names.
func TestNames(t *testing.T) {
	for _, x := range []verdict{
		right(""),
		right(exampleText),
		// Names of lattices are others than those of tasks and uses, and these others than those of declarations and elements.
		right("lattice a { a } task a(a: a) { } use b(a);"),
		{"lattice a { b } ^lattice a { c }", api.LatticeItem, api.ErrTwice},
		{"lattice a { b } lattice c { b } ^lattice a { c } lattice a { d }", api.LatticeItem, api.ErrTwice},
		{"use a(); ^use a(int);", api.UseItem, api.ErrTwice},
		{"use a(); lattice a { b } ^task a() { }", api.TaskItem, api.ErrTwice},
		{"task a() { } ^use a();", api.UseItem, api.ErrTwice},
		{"task a() { } task b() { } ^task a(n: int) { }", api.TaskItem, api.ErrTwice},
		{"lattice a { b: c; c: d; d; ^b }", api.ElemNode, api.ErrTwice},
		{"lattice a { b; ^b: c; c }", api.ElemNode, api.ErrTwice},
		right("lattice a { b } lattice c { b }"),
		// All declarations of a task have different names, wherever they are in sight.
		{"task f(a: int, ^a: set) { }", api.ParamNode, api.ErrTwice},
		{"task f(a: int) { ^new a: set; }", api.NewStmt, api.ErrTwice},
		{"task f(a: int) { ^share a: set; }", api.ShareStmt, api.ErrTwice},
		{"task f(a: int) { ^let a = a; }", api.LetStmt, api.ErrTwice},
		{"task f(x: set) { all { each x as ^x { } } }", api.BindNode, api.ErrTwice},
		{"task f() { new x: set; freeze x as ^x; }", api.BindNode, api.ErrTwice},
		{"task f() { all { let a = 1; } all { ^let a = 1; } }", api.LetStmt, api.ErrTwice},
		{"task f() { if 1 { let a = 1; } else { ^share a: set; } }", api.ShareStmt, api.ErrTwice},
		{"task f() { new x: set; all { each x as k { } each x as ^k { } } }", api.BindNode, api.ErrTwice},
		{"task f() { new x: set; all { each x as k { let a = 1; } } ^new a: set; }", api.NewStmt, api.ErrTwice},
		right("task f(a: int) { } task g(a: set) { } task h() { new a: set; }"),
		// What is not in sight.
		{"task f() { ^put x on; }", api.PutStmt, api.ErrName},
		{"task f() { ^when x on { } }", api.WhenStmt, api.ErrName},
		{"task f() { all { ^each x as k { } } }", api.EachStmt, api.ErrName},
		{"task f() { ^freeze x as y; }", api.FreezeStmt, api.ErrName},
		{"task f() { fail ^x; }", api.NameNode, api.ErrName},
		{"task f() { fail ^size(x); }", api.SizeNode, api.ErrName},
		{"task f() { fail ^has(x, 1); }", api.HasNode, api.ErrName},
		{"task f() { fail ^value(x, 1); }", api.ValueNode, api.ErrName},
		{"task f() { ^spawn g(); }", api.SpawnStmt, api.ErrName},
		{"lattice g { a } task f() { ^spawn g(); }", api.SpawnStmt, api.ErrName},
		{"task f(x: ^a) { }", api.NamedType, api.ErrName},
		{"use f(int, pair(set, map(^a)));", api.NamedType, api.ErrName},
		{"task a() { new x: ^a; }", api.NamedType, api.ErrName},
		{"lattice a { b: ^c }", api.AboveNode, api.ErrName},
		{"lattice a { b: ^d } lattice c { d }", api.AboveNode, api.ErrName},
		// Each one just where it is in sight.
		{"task f() { fail ^a; let a = 1; }", api.NameNode, api.ErrName},
		{"task f() { let a = ^a; }", api.NameNode, api.ErrName},
		right("task f() { let a = 1; let b = a; all { if a { fail a; } } fail b; }"),
		{"task f() { ^put x on; new x: flag; }", api.PutStmt, api.ErrName},
		{"task f() { if 1 { let a = 1; } else { fail ^a; } }", api.NameNode, api.ErrName},
		{"task f() { all { new x: flag; put x on; } ^put x on; }", api.PutStmt, api.ErrName},
		{"task f(x: flag) { when x on { let a = 1; } fail ^a; }", api.NameNode, api.ErrName},
		{"task f(x: once) { when x 1 { let a = 1; } or 2 { fail ^a; } }", api.NameNode, api.ErrName},
		right("task f() { new x: set; freeze x as y; fail size(y); if 1 { fail size(y); } }"),
		{"task f() { if 1 { new x: set; freeze x as y; } fail ^size(y); }", api.SizeNode, api.ErrName},
		{"task f() { new x: set; all { each x as k { fail k; } fail ^k; } }", api.NameNode, api.ErrName},
		{"task f() { new x: set; all { ^each k as k { } } }", api.EachStmt, api.ErrName},
		right("task f() { new x: set; all { each x as k { all { if k { fail k; } } } } }"),
		{"task f(a: int) { } task g() { fail ^a; }", api.NameNode, api.ErrName},
		{"task f() { let a = 1; } task g() { fail ^a; }", api.NameNode, api.ErrName},
		// The first node counts, whatever its error is.
		{"task f() { fail ^a; } task f() { }", api.NameNode, api.ErrName},
		{"task f() { } ^task f() { fail a; }", api.TaskItem, api.ErrTwice},
		{"task f(x: ^a, x: set) { }", api.NamedType, api.ErrName},
		{"task f(a: set, ^a: b) { }", api.ParamNode, api.ErrTwice},
	} {
		x.test(t, check.Module)
	}
}

// P5.1: the errors of types, but for those of points.
func TestTypes(t *testing.T) {
	for _, x := range []verdict{
		right(tables(8)),
		{tables(8) + "^lattice u { a }", api.LatticeItem, api.ErrLimit},
		{tables(8) + "^lattice u { a; b }", api.LatticeItem, api.ErrLimit},
		{"^lattice u { a; b } " + tables(8), api.LatticeItem, api.ErrFalse},
		{"^lattice u { a; b }", api.LatticeItem, api.ErrFalse},
		{lText + "^lattice u { a! }", api.LatticeItem, api.ErrFalse},
		{lText + "^lattice u { a: b; b!: c; c } lattice v { a: a }", api.LatticeItem, api.ErrFalse},
		right("lattice u { a: c, b, b; b: c, c; c }"),
		// Shapes.
		right("task f(x: map(map(map(set)))) { new a: pair(flag, map(pair(set, l))); share b: map(map(map(l))); } use g(int, map(map(map(l)))); " + lText),
		{"task f(x: ^map(map(map(map(set))))) { }", api.MapType, api.ErrLimit},
		{"use g(int, ^pair(set, map(map(map(set)))));", api.PairType, api.ErrLimit},
		{"task f() { new x: ^map(map(map(map(l)))); } " + lText, api.MapType, api.ErrLimit},
		{"task f() { share x: ^map(map(map(pair(max, set)))); }", api.MapType, api.ErrLimit},
		{"task f() { share x: ^map(map(map(map(map(map(map(set))))))); }", api.MapType, api.ErrLimit},
		// Statements that mean no variable.
		{"task f(a: int) { ^put a 1; }", api.PutStmt, api.ErrType},
		{"task f() { let a = 1; ^when a 1 { } }", api.WhenStmt, api.ErrType},
		{"task f() { new x: set; all { each x as k { ^put k 1; } } }", api.PutStmt, api.ErrType},
		{"task f() { new x: set; freeze x as y; ^put y {1}; }", api.PutStmt, api.ErrType},
		{"task f() { new x: set; freeze x as y; ^when y {1} { } }", api.WhenStmt, api.ErrType},
		{"task f() { new x: set; freeze x as y; all { ^each y as k { } } }", api.EachStmt, api.ErrType},
		{"task f() { new x: set; freeze x as y; ^freeze y as z; }", api.FreezeStmt, api.ErrType},
		{"task f(a: int) { ^freeze a as z; }", api.FreezeStmt, api.ErrType},
		{"task f(a: int) { all { ^each a as z { } } }", api.EachStmt, api.ErrType},
		// Keys.
		{"task f() { new x: flag; all { ^each x as k { } } }", api.EachStmt, api.ErrType},
		{"task f() { new x: max; all { ^each x as k { } } }", api.EachStmt, api.ErrType},
		{"task f() { new x: once; all { ^each x as k { } } }", api.EachStmt, api.ErrType},
		{"task f() { new x: pair(set, set); all { ^each x as k { } } }", api.EachStmt, api.ErrType},
		{lText + "task f() { new x: l; all { ^each x as k { } } }", api.EachStmt, api.ErrType},
		right("task f() { new x: set; new y: map(flag); all { each x as k { } each y as i { } } }"),
		// Integers.
		{"task f(x: max) { fail ^x; }", api.NameNode, api.ErrType},
		{"task f() { new x: max; let a = 1 + ^x; }", api.NameNode, api.ErrType},
		{"task f() { new x: max; freeze x as y; if -^y { } }", api.NameNode, api.ErrType},
		{"task f(x: set) { put x {1, ^x}; }", api.NameNode, api.ErrType},
		{"task f(x: map(flag)) { put x [^x] on; }", api.NameNode, api.ErrType},
		{"task f(x: max) { new z: set; freeze z as y; fail has(y, ^x); }", api.NameNode, api.ErrType},
		right("task f(n: int) { new x: set; let a = n; all { each x as k { fail k + a + n; } } fail a; }"),
		// What was frozen.
		{"task f(x: set) { fail ^size(x); }", api.SizeNode, api.ErrType},
		{"task f() { new x: set; fail ^has(x, 1); }", api.HasNode, api.ErrType},
		{"task f(n: int) { fail ^value(n, 1); }", api.ValueNode, api.ErrType},
		{"task f(x: max) { fail ^value(x, 1); }", api.ValueNode, api.ErrType},
		{"task f(n: int) { fail ^size(n); }", api.SizeNode, api.ErrType},
		{"task f() { new x: max; freeze x as y; fail ^size(y); }", api.SizeNode, api.ErrType},
		{"task f() { new x: once; freeze x as y; fail ^has(y, 1); }", api.HasNode, api.ErrType},
		{"task f() { new x: flag; freeze x as y; fail ^value(y, 1); }", api.ValueNode, api.ErrType},
		{"task f() { new x: set; freeze x as y; fail ^value(y, 1); }", api.ValueNode, api.ErrType},
		{"task f() { new x: map(max); freeze x as y; fail ^value(y, 1); }", api.ValueNode, api.ErrType},
		{"task f() { new x: pair(set, set); freeze x as y; fail ^size(y); }", api.SizeNode, api.ErrType},
		{lText + "task f() { new x: l; freeze x as y; fail ^value(y, 0); }", api.ValueNode, api.ErrType},
		right("task f() { new a: set; new b: map(max); new c: max; new d: once; freeze a as p; freeze b as q; freeze c as r; freeze d as s; fail size(p) + size(q) + has(p, 1) + has(q, 1) + value(r, 1) + value(s, 1); }"),
	} {
		x.test(t, check.Module)
	}
}

// P5.1: the errors of what is handed over.
func TestArguments(t *testing.T) {
	for _, x := range []verdict{
		{"task f(a: set) { ^spawn f(a, a); }", api.SpawnStmt, api.ErrType},
		{"task f(a: set) { ^spawn f(); }", api.SpawnStmt, api.ErrType},
		{"use g(int, set); task f(a: set) { ^spawn g(a); }", api.SpawnStmt, api.ErrType},
		{"task f() { ^spawn f(1); }", api.SpawnStmt, api.ErrType},
		{"task f(a: set) { spawn f(^1); }", api.NumNode, api.ErrType},
		{"task f(a: set) { spawn f(^-1); }", api.NegNode, api.ErrType},
		{"task f(a: set) { spawn f(a ^+ a); }", api.AddNode, api.ErrType},
		{"task f(a: set) { spawn f(^size(a)); }", api.SizeNode, api.ErrType},
		{"task f(a: set) { spawn f(^has(a, 1)); }", api.HasNode, api.ErrType},
		{"task f(a: max) { spawn f(^value(a, 1)); }", api.ValueNode, api.ErrType},
		{"task f(a: set, n: int) { spawn f(^n, 1); }", api.NameNode, api.ErrType},
		{"task f(a: set, n: int) { spawn f(a, ^a); }", api.NameNode, api.ErrType},
		{"task f(a: set, n: int) { spawn f(a, n + ^a); }", api.NameNode, api.ErrType},
		{"task f(a: set, b: max) { spawn f(^b, a); }", api.NameNode, api.ErrType},
		{"task f(a: set, b: max) { spawn f(a, ^a); }", api.NameNode, api.ErrType},
		{"task f(a: map(flag), b: map(set)) { spawn f(a, ^a); }", api.NameNode, api.ErrType},
		{"task f(a: pair(flag, set), b: pair(set, flag)) { spawn f(^b, a); }", api.NameNode, api.ErrType},
		{"lattice l { a } lattice m { a } task f(a: l, b: m) { spawn f(a, ^a); }", api.NameNode, api.ErrType},
		{"task f(a: set) { new x: set; freeze x as y; spawn f(^y); }", api.NameNode, api.ErrType},
		{"task f(a: set) { new x: set; freeze x as y; spawn f(^size(y)); }", api.SizeNode, api.ErrType},
		{"task f(n: int) { new x: set; freeze x as y; spawn f(^y); }", api.NameNode, api.ErrType},
		{"task f(a: set) { spawn g(^a); } use g(map(map(map(map(set)))));", api.NameNode, api.ErrType},
		right("lattice l { a } task f(a: map(l), n: int) { all { new x: map(l); share y: map(l); spawn f(a, n); spawn f(x, -n); spawn f(y, n + 1); spawn g(a, 3); } } use g(map(l), int);"),
		right("task f(a: int, b: int, c: int, d: int, e: set) { spawn f(1, a, 2 * b, -c, e); }"),
	} {
		x.test(t, check.Module)
	}
}

// P5.1: the errors of points.
func TestPointTypes(t *testing.T) {
	for _, x := range []verdict{
		right(lText + "task f(a: flag, b: max, c: once, d: set, e: l) { share g: map(flag); share h: pair(flag, max); put a on; put b 1; put c 1; put d {1}; put e #b; put g [1] on; put h pair(on, 1); put h pair(on, ); put h pair(, 1); }"),
		{"task f(x: flag) { put x ^1; }", api.IntPoint, api.ErrType},
		{"task f(x: flag) { put x ^{1}; }", api.SetPoint, api.ErrType},
		{"task f(x: flag) { put x ^#a; }", api.NamePoint, api.ErrType},
		{"task f(x: flag) { put x ^[1] on; }", api.KeyPoint, api.ErrType},
		{"task f(x: flag) { put x ^pair(on, on); }", api.PairPoint, api.ErrType},
		{"task f(x: max) { put x ^on; }", api.OnPoint, api.ErrType},
		{"task f(x: max) { put x ^{1}; }", api.SetPoint, api.ErrType},
		{"task f(x: once) { when x ^on { } }", api.OnPoint, api.ErrType},
		{"task f(x: set) { put x ^1; }", api.IntPoint, api.ErrType},
		{"task f(x: set) { put x ^[1] {2}; }", api.KeyPoint, api.ErrType},
		{"task f(x: map(max)) { put x ^1; }", api.IntPoint, api.ErrType},
		{"task f(x: map(max)) { put x ^{1}; }", api.SetPoint, api.ErrType},
		{"task f(x: map(max)) { put x [1] ^on; }", api.OnPoint, api.ErrType},
		{"task f(x: map(max)) { put x [^x] on; }", api.NameNode, api.ErrType},
		{"task f(x: map(map(max))) { put x [1] [2] ^[3] 4; }", api.KeyPoint, api.ErrType},
		{"task f(x: pair(flag, set)) { put x pair(on, ^1); }", api.IntPoint, api.ErrType},
		{"task f(x: pair(flag, set)) { put x pair(^1, 2); }", api.IntPoint, api.ErrType},
		{"task f(x: pair(flag, set)) { put x pair(^{1}, ); }", api.SetPoint, api.ErrType},
		{"task f(x: pair(flag, set)) { put x pair(, ^on); }", api.OnPoint, api.ErrType},
		{"task f(x: pair(max, pair(set, once))) { put x pair(1, pair({2}, ^on)); }", api.OnPoint, api.ErrType},
		{"task f(x: pair(max, pair(set, once))) { put x pair(1, pair(, ^{1})); }", api.SetPoint, api.ErrType},
		{"task f(x: once) { when x 1 { } or ^on { } }", api.OnPoint, api.ErrType},
		// Names of elements.
		{lText + "task f(x: l) { put x ^#a; }", api.NamePoint, api.ErrType},
		{lText + "task f(x: l) { put x ^#e; }", api.NamePoint, api.ErrType},
		{lText + tintText + "task f(x: l) { put x ^#red; }", api.NamePoint, api.ErrType},
		{lText + "task f(x: l) { put x ^on; }", api.OnPoint, api.ErrType},
		{lText + "task f(x: l) { put x ^1; }", api.IntPoint, api.ErrType},
		{lText + "task f(x: map(l)) { put x ^#b; }", api.NamePoint, api.ErrType},
		{lText + "task f(x: map(l)) { put x [1] ^#a; }", api.NamePoint, api.ErrType},
		{lText + "task f(x: pair(l, flag)) { when x pair(#b, ^#b) { } }", api.NamePoint, api.ErrType},
		{"lattice l { a } task f(x: l) { put x ^#a; }", api.NamePoint, api.ErrType},
		right(tintText + lText + "task f(x: tint, y: l) { put x #red; put x #both; put y #d; when y #b { } or #c { } }"),
		right("task l() { } use m(); lattice m { a } lattice l { a: b; b } task f(x: l) { put x #b; when x #b { } }"),
		// A point that does not fit comes before what is in it, an expr before the points behind it.
		{"task f(x: set) { put x ^[x] #a; }", api.KeyPoint, api.ErrType},
		{"task f(x: max) { put x ^{1, x}; }", api.SetPoint, api.ErrType},
		{"task f(x: set, n: int) { ^put n on; }", api.PutStmt, api.ErrType},
	} {
		x.test(t, check.Module)
	}
}
