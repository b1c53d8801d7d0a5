package compile_test

import (
	"reflect"
	"slices"
	"strconv"
	"strings"
	"testing"

	"dripstone/api"
	"dripstone/check"
	"dripstone/code"
	"dripstone/compile"
	"dripstone/parse"
)

// exampleText is the program of chapter 5, of which chapter 8 says some things.
const exampleText = "task main(n: int) { new x: set; all { spawn f(x, n); each x as k { if k > 0 { put x {k - 1}; } } } freeze x as y; fail size(y); } task f(p: set, n: int) { put p {n}; }"

// lText and tintText are tables; of both the last element is wrong.
const (
	lText    = "lattice l { a: b, c; b: d; c: d; d! } "
	tintText = "lattice tint { none: red, blue; red: both; blue: both; both! } "
)

// wholeText has items, statements, exprs and points of all kinds.
const wholeText = tintText + lText + `use far(pair(set, l), int, map(tint));
task main(n: int, m: int) {
  new x: map(pair(set, l)); share y: pair(set, l); new s: set; let o = n; let p = -o * 2 + m;
  all {
    put x [n] pair({o, -3, p / 2}, #b); spawn g(s, y, 7); put s {p};
    each x as k {
      share z: map(tint);
      all { new u: set; put u {k, o}; spawn far(y, k, z); each u as v { put s {v, k}; put z [v] #blue; } }
      put z [k] #red; when y pair({k, o}, ) { let q = p; fail q; }
    }
    all { put y pair(, #c); }
  }
  freeze s as t; let h = has(t, -1) == size(t); if h { fail -(-4); } else { if m != n { } let w = n < m; put y pair({w}, ); }
}
task g(a: set, b: pair(set, l), c: int) {
  share d: once; share e: flag; new f: once; put e on; freeze f as w;
  all { new v: set; each v as k { put d value(w, c); let r = k >= c; put a {r, 1, 2, c}; } }
  when d 1 { } or -2 { when e on { put a {1}; } } or 3 { let j = c <= 4; fail j > c - 1; }
}
`

// mustParse returns the tree of a text.
func mustParse(t *testing.T, s string) api.Tree {
	t.Helper()
	u, at, e := parse.Parse(s)
	if e != api.OK {
		t.Fatalf("Parse of %q: %v at %d", s, e, at)
	}
	return u
}

// mustModule returns the tree of the text of a module.
func mustModule(t *testing.T, s string) api.Tree {
	t.Helper()
	u := mustParse(t, s)
	if node, e := check.Module(u); e != api.OK {
		t.Fatalf("Module: %v at the node %d of\n%s", e, node, s)
	}
	return u
}

// mustPrint returns the text of a tree, for messages.
func mustPrint(t *testing.T, u api.Tree) string {
	t.Helper()
	s, e := parse.Print(u)
	if e != api.OK && e != api.ErrLimit {
		t.Fatalf("Print: %v", e)
	}
	return s
}

// mustCompile returns the code of a module.
func mustCompile(t *testing.T, u api.Tree) api.Code {
	t.Helper()
	c, e := compile.Compile(u)
	if e != api.OK {
		t.Fatalf("Compile: %v of\n%s", e, mustPrint(t, u))
	}
	return c
}

// mustHomes returns the homes of a module.
func mustHomes(t *testing.T, u api.Tree) []int {
	t.Helper()
	l, e := compile.Homes(u)
	if e != api.OK {
		t.Fatalf("Homes: %v of\n%s", e, mustPrint(t, u))
	}
	return l
}

// mustSegment returns the segment of a home.
func mustSegment(t *testing.T, u api.Tree, home int) api.Segment {
	t.Helper()
	s, e := compile.Segment(u, home)
	if e != api.OK {
		t.Fatalf("Segment of %d: %v of\n%s", home, e, mustPrint(t, u))
	}
	return s
}

// mustRegisters returns the registers of a home.
func mustRegisters(t *testing.T, u api.Tree, home int) []int {
	t.Helper()
	l, e := compile.Registers(u, home)
	if e != api.OK {
		t.Fatalf("Registers of %d: %v of\n%s", home, e, mustPrint(t, u))
	}
	return l
}

// mustOrigins returns the origins of a module.
func mustOrigins(t *testing.T, u api.Tree) [][]int {
	t.Helper()
	l, e := compile.Origins(u)
	if e != api.OK {
		t.Fatalf("Origins: %v of\n%s", e, mustPrint(t, u))
	}
	return l
}

// mustText returns the text of code.
func mustText(t *testing.T, c api.Code) string {
	t.Helper()
	s, e := code.Text(c)
	if e != api.OK {
		t.Fatalf("Text: %v of %v", e, c)
	}
	return s
}

// mustLook returns the notes of a module.
func mustLook(t *testing.T, u api.Tree) api.Notes {
	t.Helper()
	notes, e := check.Look(u)
	if e != api.OK {
		t.Fatalf("Look: %v of\n%s", e, mustPrint(t, u))
	}
	return notes
}

// same says whether two results are the same; a nil list is the same as an empty one.
func same(a, b any) bool {
	return sameValue(reflect.ValueOf(a), reflect.ValueOf(b))
}

func sameValue(a, b reflect.Value) bool {
	switch a.Kind() {
	case reflect.Struct:
		for i := range a.NumField() {
			if !sameValue(a.Field(i), b.Field(i)) {
				return false
			}
		}
		return true
	case reflect.Slice:
		if a.Len() != b.Len() {
			return false
		}
		for i := range a.Len() {
			if !sameValue(a.Index(i), b.Index(i)) {
				return false
			}
		}
		return true
	}
	return a.Equal(b)
}

// listing returns the lines of the instructions of all segments of a text's module, without their blanks, and with the lines of the segments between.
func listing(t *testing.T, s string) []string {
	t.Helper()
	out, at, e := compile.Text(s)
	if e != api.OK {
		t.Fatalf("Text of %q: %v at %d", s, e, at)
	}
	var lines []string
	for line := range strings.Lines(out) {
		lines = append(lines, strings.TrimSpace(line))
	}
	return lines
}

// body returns the lines of the instructions of the first task of a text's module, but for its halt.
func body(t *testing.T, s string) []string {
	t.Helper()
	l := listing(t, s)
	l = l[slices.IndexFunc(l, func(line string) bool { return strings.HasPrefix(line, "segment ") })+1:]
	if n := slices.IndexFunc(l, func(line string) bool { return strings.HasPrefix(line, "segment ") }); n >= 0 {
		l = l[:n]
	}
	return l[:len(l)-1]
}

// lines returns the lines that are written in a text, one behind the other, with a semicolon between two.
func lines(s string) []string {
	if s == "" {
		return nil
	}
	return strings.Split(s, "; ")
}

// nodeOf returns the number of the first node of a kind, of the n-th one (from 0 on).
func nodeOf(t *testing.T, u api.Tree, kind uint8, n int) int {
	t.Helper()
	for node, x := range u.Nodes {
		if x.Kind != kind {
			continue
		}
		if n == 0 {
			return node
		}
		n--
	}
	t.Fatalf("there is no such node of the kind %d in\n%s", kind, mustPrint(t, u))
	return 0
}

// segmentText returns the text of a segment, right or not.
func segmentText(s api.Segment) string {
	out := "segment " + s.Name + " " + strconv.Itoa(s.Regs)
	for _, kind := range s.Params {
		switch {
		case kind == -1:
			out += " int"
		case kind >= 0:
			out += " s" + strconv.Itoa(kind)
		default:
			out += " v" + strconv.Itoa(-2-kind)
		}
	}
	for _, i := range s.Ins {
		out += "\n  " + insText(i)
	}
	return out + "\n"
}

// insText returns the text of an instruction.
func insText(i api.Ins) string {
	reg := func(n int) string {
		if n == -1 {
			return " -"
		}
		return " r" + strconv.Itoa(n)
	}
	number := func(n int) string { return " " + strconv.Itoa(n) }
	a, b, c, n, shape, site := reg(i.A), reg(i.B), reg(i.C), number(i.N), " s"+strconv.Itoa(i.S), number(i.Site)
	var args, cases string
	for _, r := range i.Args {
		args += reg(r)
	}
	for _, x := range i.Cases {
		cases += reg(x.Reg) + ">" + strconv.Itoa(x.To)
	}
	own := map[int]string{0: " own", 1: " shared"}[i.B]
	switch i.Op {
	case api.OArith:
		if i.Name == "neg" {
			return "arith" + a + " neg" + b
		}
		return "arith" + a + " " + i.Name + b + c
	case api.OJump:
		return "jump" + n
	case api.OZero:
		return "zero" + a + n
	}
	return map[uint8]string{
		api.OInt: "int" + a + n, api.OOn: "on" + a + shape, api.OName: "name" + a + shape + n, api.OPoint: "point" + a + shape + b, api.OSet: "set" + a + shape + b,
		api.OKey: "key" + a + shape + b + c, api.OPair: "pair" + a + shape + b + c, api.OJoin: "join" + a + shape + b + c,
		api.ONew: "new" + a + shape + own + site, api.OPut: "put" + a + b, api.OSpawn: "spawn " + i.Name + site + args, api.OWhen: "when" + a + site + cases, api.OEach: "each" + a + " " + i.Name + site + args,
		api.OAll: "all" + site, api.ODone: "done" + site, api.OFreeze: "freeze" + a + b + site, api.OSize: "size" + a + b, api.OHas: "has" + a + b + c, api.OValue: "value" + a + b + c,
		api.ONote: "note", api.OFail: "fail" + a, api.OHalt: "halt",
	}[i.Op]
}
