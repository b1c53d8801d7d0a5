package compile_test

import (
	"slices"
	"strconv"
	"strings"
	"testing"

	"dripstone/api"
)

// moduleTexts are modules of which something is tested, beside those that are made.
func moduleTexts() []string {
	return []string{exampleText, wholeText, smallText, nestedText, aliasText, "", "use f();", "lattice t { a }", "task f() { }"}
}

// smallText is the program of the chapter's examples.
const smallText = "task main() { new x: set; put x {1, 2}; when x {1} { fail 1 + 2; } }"

// nestedText has EachStmts in others, and behind them, that mean what is declared outside.
const nestedText = "task f(n: int, p: set) { share z: max; new w: once; freeze w as v; let o = n; let q = 1 + n; new x: map(set); all { each x as a { new y: set; put z n; all { each y as b { put p {q, a, b, value(v, o)}; let c = b; } } put y {o}; } each x as d { } all { new u: set; each u as e { put u {e}; put u {n}; spawn f(e, p); } } } } use g(int); task h(k: set) { all { new x: set; each x as i { spawn g(i); } } }"

// aliasText has names for other names.
const aliasText = "task main(n: int) { let a = n; let b = a; new x: set; put x {a, b, n}; all { each x as k { let c = k; let d = c; if d > a { put x {b}; } spawn f(x, c, d, a, b); } } } task f(s: set, i: int, j: int, k: int, l: int) { let m = l; put s {m / 2}; }"

// The chapter's example, with places and origins.
func TestExample(t *testing.T) {
	u := mustModule(t, smallText)
	if got := strings.Join(listing(t, smallText), "; "); got != "shape set; segment main 3; new r0 s0 own 0; int r1 1; set r1 s0 r1; int r2 2; set r2 s0 r2; join r1 s0 r1 r2; put r0 r1; int r1 1; set r1 s0 r1; when r0 1 r1>10; int r1 1; int r2 2; arith r1 add r1 r2; fail r1; halt" {
		t.Errorf("Text: %s", got)
	}
	var kinds []uint8
	for _, node := range mustOrigins(t, u)[0] {
		kinds = append(kinds, u.Nodes[node].Kind)
	}
	if !slices.Equal(kinds, []uint8{api.NewStmt, api.NumNode, api.SetPoint, api.NumNode, api.SetPoint, api.SetPoint, api.PutStmt, api.NumNode, api.SetPoint, api.WhenStmt, api.NumNode, api.NumNode, api.AddNode, api.FailStmt, api.TaskItem}) {
		t.Errorf("Origins: %v", kinds)
	}
}

// The module of chapter 5, of which the chapter says homes, segments and registers.
func TestExampleOfCheck(t *testing.T) {
	u := mustModule(t, exampleText)
	c := mustCompile(t, u)
	homes := mustHomes(t, u)
	var kinds []uint8
	for _, node := range homes {
		kinds = append(kinds, u.Nodes[node].Kind)
	}
	if !slices.Equal(kinds, []uint8{api.TaskItem, api.EachStmt, api.TaskItem}) || u.Nodes[homes[0]].Text != "main" || u.Nodes[homes[2]].Text != "f" {
		t.Errorf("Homes: %v", homes)
	}
	for i, want := range []struct {
		name string
		regs int
	}{{"main", 4}, {"main.0", 3}, {"f", 3}} {
		if s := c.Segments[i]; s.Name != want.name || s.Regs != want.regs {
			t.Errorf("the segment %d: %s, %d registers", i, s.Name, s.Regs)
		}
	}
	if len(c.Segments) != 3 || !same(c.Shapes, []api.Shape{{Kind: api.ShapeSet}}) || len(c.Tables) != 0 || len(c.Uses) != 0 {
		t.Errorf("Compile: %v", c)
	}
}

// Each statement, by the instructions that it becomes.
func TestStatements(t *testing.T) {
	const head = "task f(n: int, x: set, y: max, o: once) { "
	for s, want := range map[string]string{
		"":                                     "",
		"new a: set;":                          "new r4 s0 own 0",
		"share a: max;":                        "new r4 s1 shared 0",
		"new a: map(set); share b: flag;":      "new r4 s3 own 0; new r5 s4 shared 1",
		"let a = 5;":                           "int r4 5; note",
		"let a = n;":                           "note",
		"let a = n; let b = a; fail b;":        "note; note; fail r0",
		"let a = 1; let b = a; let c = 2;":     "int r4 1; note; note; int r5 2; note",
		"let a = n + 1; let b = a * a;":        "int r4 1; arith r4 add r0 r4; note; arith r5 mul r4 r4; note",
		"let a = 1 + 2 + 3; let b = 4;":        "int r4 1; int r5 2; arith r4 add r4 r5; int r5 3; arith r4 add r4 r5; note; int r5 4; note",
		"let a = 1 - (2 - 3); let b = 4;":      "int r4 1; int r5 2; int r6 3; arith r5 sub r5 r6; arith r4 sub r4 r5; note; int r5 4; note",
		"put x {n};":                           "set r4 s0 r0; put r1 r4",
		"put y n; put y 3;":                    "point r4 s1 r0; put r2 r4; int r4 3; point r4 s1 r4; put r2 r4",
		"spawn f(n, x, y, o);":                 "spawn f 0 r0 r1 r2 r3",
		"spawn f(7, x, y, o);":                 "int r4 7; spawn f 0 r4 r1 r2 r3",
		"spawn f(n + 1, x, y, o); fail 1;":     "int r4 1; arith r4 add r0 r4; spawn f 0 r4 r1 r2 r3; int r4 1; fail r4",
		"spawn g(n, 1, n, 2, -n);":             "int r4 1; int r5 2; arith r6 neg r0; spawn g 0 r0 r4 r0 r5 r6",
		"spawn h(); spawn h();":                "spawn h 0; spawn h 1",
		"fail n;":                              "fail r0",
		"fail 3;":                              "int r4 3; fail r4",
		"fail 1; fail 2; put y 1;":             "int r4 1; fail r4; int r4 2; fail r4; int r4 1; point r4 s1 r4; put r2 r4",
		"when y n { }":                         "point r4 s1 r0; when r2 0 r4>2",
		"when y 1 { } fail n;":                 "int r4 1; point r4 s1 r4; when r2 0 r4>3; fail r0",
		"when x {n, 1} { let a = 2; } fail 3;": "set r4 s0 r0; int r5 1; set r5 s0 r5; join r4 s0 r4 r5; when r1 0 r4>5; int r4 2; note; int r4 3; fail r4",
		"when o 1 { } or 2 { fail n; }":        "int r4 1; point r4 s2 r4; int r5 2; point r5 s2 r5; when r3 0 r4>5 r5>6; jump 7; fail r0",
		"when o 1 { let a = 1; } or -2 { new b: max; } or 3 { } or 4 { let c = 2; } let d = 3;": "int r4 1; point r4 s2 r4; int r5 -2; point r5 s2 r5; int r6 3; point r6 s2 r6; int r7 4; point r7 s2 r7; when r3 0 r4>9 r5>12 r6>14 r7>15; int r4 1; note; jump 17; new r4 s1 own 1; jump 17; jump 17; int r4 2; note; int r4 3; note",
		"if n { }":                 "note; zero r0 2",
		"if 1 { } else { }":        "int r4 1; note; zero r4 4; jump 4",
		"if n { fail 1; } fail 2;": "note; zero r0 4; int r4 1; fail r4; int r4 2; fail r4",
		"if n == 1 { fail 2; } else { fail 3; } fail n;": "int r4 1; arith r4 eq r0 r4; note; zero r4 7; int r4 2; fail r4; jump 9; int r4 3; fail r4; fail r0",
		"if n { let a = 1; let b = 2; } let c = 3;":      "note; zero r0 6; int r4 1; note; int r5 2; note; int r4 3; note",
		"if n { } else { new a: set; } let c = 3;":       "note; zero r0 3; jump 4; new r4 s0 own 0; int r4 3; note",
		"if n { if n { } else { } } else { if n { } }":   "note; zero r0 6; note; zero r0 5; jump 5; jump 8; note; zero r0 8",
		"all { }": "all 0; done 0",
		"new a: set; all { spawn f(n, a, y, o); let b = 1; } let c = 2;": "new r4 s0 own 0; all 1; spawn f 2 r0 r4 r2 r3; int r5 1; note; done 1; int r5 2; note",
		"all { all { } all { all { } } }":                                "all 0; all 1; done 1; all 2; all 3; done 3; done 2; done 0",
		"all { fail 1; }":                                                "all 0; int r4 1; fail r4; done 0",
		"new a: max; freeze a as b; fail value(b, n);":                   "new r4 s1 own 0; freeze r5 r4 1; value r6 r5 r0; fail r6",
		"new a: set; if n { freeze a as b; let c = 1; } let d = 2;":      "new r4 s0 own 0; note; zero r0 6; freeze r5 r4 1; int r6 1; note; int r5 2; note",
		"new a: set; all { each a as k { } }":                            "new r4 s0 own 0; all 1; each r4 f.0 2; done 1",
		"new a: set; let c = n; let d = 1; all { each a as k { put a {d, c, k}; put y n; } let e = 2; } let g = 3;": "new r4 s0 own 0; note; int r5 1; note; all 1; each r4 f.0 2 r0 r2 r4 r0 r5; int r6 2; note; done 1; int r6 3; note",
	} {
		text := head + s + " } use g(int, int, int, int, int); task h() { }"
		if got := body(t, text); !slices.Equal(got, lines(want)) {
			t.Errorf("Text of %q:\n%s, and not\n%s", s, strings.Join(got, "; "), want)
		}
	}
}

// Each expr, by the instructions that it becomes, with its register.
func TestExprs(t *testing.T) {
	// r0 and r1 hold integers, r3 and r5 values.
	const head = "task f(n: int, m: int) { new a: set; freeze a as k; new b: max; freeze b as v; fail "
	for s, want := range map[string]string{
		"n":                              "fail r0",
		"0":                              "int r6 0; fail r6",
		"1000000000":                     "int r6 1000000000; fail r6",
		"-7":                             "int r6 -7; fail r6",
		"-1000000000":                    "int r6 -1000000000; fail r6",
		"-0":                             "int r6 0; fail r6",
		"-(7)":                           "int r6 -7; fail r6",
		"--7":                            "int r6 -7; arith r6 neg r6; fail r6",
		"---7":                           "int r6 -7; arith r6 neg r6; arith r6 neg r6; fail r6",
		"-n":                             "arith r6 neg r0; fail r6",
		"-(n + 1)":                       "int r6 1; arith r6 add r0 r6; arith r6 neg r6; fail r6",
		"n == m":                         "arith r6 eq r0 r1; fail r6",
		"n != m":                         "arith r6 ne r0 r1; fail r6",
		"n < m":                          "arith r6 lt r0 r1; fail r6",
		"n <= m":                         "arith r6 le r0 r1; fail r6",
		"n > m":                          "arith r6 gt r0 r1; fail r6",
		"n >= m":                         "arith r6 ge r0 r1; fail r6",
		"n + m":                          "arith r6 add r0 r1; fail r6",
		"n - m":                          "arith r6 sub r0 r1; fail r6",
		"n * m":                          "arith r6 mul r0 r1; fail r6",
		"n / m":                          "arith r6 div r0 r1; fail r6",
		"n - 1":                          "int r6 1; arith r6 sub r0 r6; fail r6",
		"1 - n":                          "int r6 1; arith r6 sub r6 r0; fail r6",
		"1 - 2":                          "int r6 1; int r7 2; arith r6 sub r6 r7; fail r6",
		"n + n + n":                      "arith r6 add r0 r0; arith r6 add r6 r0; fail r6",
		"n + (n + n)":                    "arith r6 add r0 r0; arith r6 add r0 r6; fail r6",
		"1 + (2 + (3 + 4))":              "int r6 1; int r7 2; int r8 3; int r9 4; arith r8 add r8 r9; arith r7 add r7 r8; arith r6 add r6 r7; fail r6",
		"1 * 2 - 3 / 4":                  "int r6 1; int r7 2; arith r6 mul r6 r7; int r7 3; int r8 4; arith r7 div r7 r8; arith r6 sub r6 r7; fail r6",
		"n * m == m * n":                 "arith r6 mul r0 r1; arith r7 mul r1 r0; arith r6 eq r6 r7; fail r6",
		"size(k)":                        "size r6 r3; fail r6",
		"has(k, n)":                      "has r6 r3 r0; fail r6",
		"has(k, 5)":                      "int r6 5; has r6 r3 r6; fail r6",
		"has(k, n + 1)":                  "int r6 1; arith r6 add r0 r6; has r6 r3 r6; fail r6",
		"value(v, m)":                    "value r6 r5 r1; fail r6",
		"value(v, -5)":                   "int r6 -5; value r6 r5 r6; fail r6",
		"has(k, value(v, size(k)))":      "size r6 r3; value r6 r5 r6; has r6 r3 r6; fail r6",
		"size(k) - size(k)":              "size r6 r3; size r7 r3; arith r6 sub r6 r7; fail r6",
		"-size(k)":                       "size r6 r3; arith r6 neg r6; fail r6",
		"n + value(v, 1) * has(k, -(2))": "int r6 1; value r6 r5 r6; int r7 -2; has r7 r3 r7; arith r6 mul r6 r7; arith r6 add r0 r6; fail r6",
	} {
		got := body(t, head+s+"; }")
		if !slices.Equal(got[:4], lines("new r2 s0 own 0; freeze r3 r2 1; new r4 s1 own 2; freeze r5 r4 3")) || !slices.Equal(got[4:], lines(want)) {
			t.Errorf("Text of %q:\n%s, and not\n%s", s, strings.Join(got, "; "), want)
		}
	}
}

// Each point, by the instructions that it becomes.
func TestPoints(t *testing.T) {
	for _, x := range []struct{ shape, point, want string }{
		{"flag", "on", "on r2 s0"},
		{"max", "n", "point r2 s0 r0"},
		{"max", "3", "int r2 3; point r2 s0 r2"},
		{"once", "-n", "arith r2 neg r0; point r2 s0 r2"},
		{"once", "1 + 2", "int r2 1; int r3 2; arith r2 add r2 r3; point r2 s0 r2"},
		{"l", "#b", "name r2 s0 1"},
		{"l", "#d", "name r2 s0 3"},
		{"tint", "#both", "name r2 s0 3"},
		{"tint", "#blue", "name r2 s0 2"},
		{"set", "{n}", "set r2 s0 r0"},
		{"set", "{3}", "int r2 3; set r2 s0 r2"},
		{"set", "{n, n}", "set r2 s0 r0; set r3 s0 r0; join r2 s0 r2 r3"},
		{"set", "{1, n, 2, 1 + 2}", "int r2 1; set r2 s0 r2; set r3 s0 r0; join r2 s0 r2 r3; int r3 2; set r3 s0 r3; join r2 s0 r2 r3; int r3 1; int r4 2; arith r3 add r3 r4; set r3 s0 r3; join r2 s0 r2 r3"},
		{"map(set)", "[n] {n}", "set r2 s1 r0; key r2 s0 r0 r2"},
		{"map(set)", "[1] {2, 3}", "int r2 1; int r3 2; set r3 s1 r3; int r4 3; set r4 s1 r4; join r3 s1 r3 r4; key r2 s0 r2 r3"},
		{"map(flag)", "[n] on", "on r2 s1; key r2 s0 r0 r2"},
		{"map(l)", "[-1] #c", "int r2 -1; name r3 s1 2; key r2 s0 r2 r3"},
		{"map(map(map(max)))", "[1] [n] [2] 3", "int r2 1; int r3 2; int r4 3; point r4 s3 r4; key r3 s2 r3 r4; key r3 s1 r0 r3; key r2 s0 r2 r3"},
		{"pair(flag, max)", "pair(on, n)", "on r2 s1; point r3 s2 r0; pair r2 s0 r2 r3"},
		{"pair(flag, max)", "pair(on, )", "on r2 s1; pair r2 s0 r2 -"},
		{"pair(flag, max)", "pair(, 4)", "int r2 4; point r2 s2 r2; pair r2 s0 - r2"},
		{"pair(max, max)", "pair(4, n)", "int r2 4; point r2 s1 r2; point r3 s1 r0; pair r2 s0 r2 r3"},
		{"pair(max, max)", "pair(, n)", "point r2 s1 r0; pair r2 s0 - r2"},
		{"pair(pair(flag, flag), set)", "pair(pair(, on), {n, 1})", "on r2 s2; pair r2 s1 - r2; set r3 s3 r0; int r4 1; set r4 s3 r4; join r3 s3 r3 r4; pair r2 s0 r2 r3"},
		{"pair(pair(flag, flag), set)", "pair(, {n, 1})", "set r2 s3 r0; int r3 1; set r3 s3 r3; join r2 s3 r2 r3; pair r2 s0 - r2"},
		{"map(pair(set, map(once)))", "[n] pair({1}, [2] 3)", "int r2 1; set r2 s2 r2; int r3 2; int r4 3; point r4 s4 r4; key r3 s3 r3 r4; pair r2 s1 r2 r3; key r2 s0 r0 r2"},
		{"map(pair(set, map(once)))", "[n] pair(, [n] n)", "point r2 s4 r0; key r2 s3 r0 r2; pair r2 s1 - r2; key r2 s0 r0 r2"},
	} {
		s := lText + tintText + "task f(n: int, x: " + x.shape + ") { put x " + x.point + "; when x " + x.point + " { } }"
		point := lines(x.want)
		if strings.Contains(x.point, "#d") || strings.Contains(x.point, "#both") {
			// Nothing waits for what is wrong.
			s = strings.ReplaceAll(s, "when x "+x.point+" { }", "")
			if got := body(t, s); !slices.Equal(got, append(point, "put r1 r2")) {
				t.Errorf("of %s, %s: %s", x.shape, x.point, strings.Join(got, "; "))
			}
			continue
		}
		want := slices.Concat(point, []string{"put r1 r2"}, point, []string{"when r1 0 r2>" + strconv.Itoa(2*len(point)+2)})
		if got := body(t, s); !slices.Equal(got, want) {
			t.Errorf("of %s, %s: %s, and not %s", x.shape, x.point, strings.Join(got, "; "), strings.Join(want, "; "))
		}
	}
}
