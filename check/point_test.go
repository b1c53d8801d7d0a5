package check_test

import (
	"slices"
	"strings"
	"testing"

	"dripstone/api"
	"dripstone/check"
	"dripstone/elem"
)

// P5.6: Points.
func TestPoints(t *testing.T) {
	for _, x := range []struct {
		shape, stmt string
		want        string // the texts of the elements, with blanks between
	}{
		{"flag", "put x on;", "on"},
		{"max", "put x 7;", "7"},
		{"max", "put x -7;", "-7"},
		{"max", "put x -0;", "0"},
		{"max", "put x (1000000000);", "1000000000"},
		{"once", "put x -1000000000;", "-1000000000"},
		{"set", "put x {3};", "{3}"},
		{"set", "put x {3, -1, 3, 2};", "{-1, 2, 3}"},
		{"set", "put x {0, -0};", "{0}"},
		{"l", "put x #b;", "#b"},
		{"l", "put x #d;", "#d"},
		{"tint", "put x #both;", "#both"},
		{"map(flag)", "put x [4] on;", "[4: on]"},
		{"map(map(set))", "put x [-4] [5] {6, 1};", "[-4: [5: {1, 6}]]"},
		{"pair(flag, max)", "put x pair(on, -1);", "(on, -1)"},
		{"pair(flag, max)", "put x pair(on, );", "(on, none)"},
		{"pair(flag, max)", "put x pair(, 2);", "(none, 2)"},
		{"pair(l, map(pair(tint, once)))", "put x pair(, [9] pair(#red, ));", "(none, [9: (#red, none)])"},
		{"pair(l, map(pair(tint, once)))", "put x pair(#c, [9] pair(, 3));", "(#c, [9: (none, 3)])"},
		{"once", "when x 4 { } or -4 { } or 0 { }", "4 -4 0"},
		{"max", "when x 4 { put x 5; }", "4"},
		{"pair(l, set)", "when x pair(#b, {1}) { } or pair(#c, ) { put x pair(#d, ); }", "(#b, {1}) (#c, none)"},
	} {
		text := lText + tintText + "task f(x: " + x.shape + ") { " + x.stmt + " }"
		u := mustParse(t, text)
		stmt := ofKind(u, api.PutStmt, api.WhenStmt)[0]
		l, e := check.Points(u, stmt)
		if e != api.OK {
			t.Errorf("Points of %q: %v", text, e)
			continue
		}
		tables, _ := check.Tables(u)
		shape, _ := check.Shape(u, ofKind(u, api.ParamNode)[0]+1)
		var got []string
		for _, p := range l {
			s, e := elem.Text(api.Lattice{Tables: tables, Shape: shape}, p)
			if e != api.OK {
				t.Errorf("Points of %q: %v, of which elem.Text has the error %v", text, l, e)
			}
			got = append(got, strings.ReplaceAll(s, " ", "_"))
		}
		if s := strings.ReplaceAll(strings.Join(got, " "), "_", " "); s != x.want {
			t.Errorf("Points of %q: %s, and not %s", text, s, x.want)
		}
	}
}

// P5.6: what is not constant.
func TestPointsOfNames(t *testing.T) {
	for _, x := range []struct{ shape, stmt string }{
		{"max", "put x n;"},
		{"max", "put x 1 + 2;"},
		{"max", "put x --1;"},
		{"max", "put x -n;"},
		{"max", "put x 1 == 1;"},
		{"max", "when x n { }"},
		{"set", "put x {1, n};"},
		{"set", "put x {n, 1};"},
		{"set", "put x {1, 2, 3, 4 - 1};"},
		{"map(flag)", "put x [n] on;"},
		{"map(max)", "put x [1] n;"},
		{"map(max)", "put x [n] 1;"},
		{"pair(max, max)", "put x pair(1, n);"},
		{"pair(max, max)", "put x pair(n, 1);"},
		{"pair(max, max)", "put x pair(, n);"},
		{"map(pair(flag, set))", "when x [1] pair(on, {n}) { }"},
	} {
		text := "task f(x: " + x.shape + ", n: int) { " + x.stmt + " }"
		u := mustParse(t, text)
		if l, e := check.Points(u, ofKind(u, api.PutStmt, api.WhenStmt)[0]); e != api.ErrState || len(l) != 0 {
			t.Errorf("Points of %q: %v, %v", text, l, e)
		}
	}
}

// P5.7: Effects.
func TestEffects(t *testing.T) {
	for _, x := range []struct {
		text string
		want string // for each item, with blanks between: for each parameter p (Puts), w (Waits), b (both) or -, then f (Fails) and s (Spawns) behind a dot
	}{
		{"", ""},
		{"lattice l { a }", ""},
		{exampleText, "-.fs p-."},
		{"task f() { }", "."},
		{"use f(); use g(int, set, flag);", ".fs bbb.fs"},
		{"task f(a: flag, b: flag, n: int) { put b on; when a on { } }", "wp-."},
		{"task f(a: flag) { when a on { put a on; } }", "b."},
		{"task f(n: int) { let a = -n < 1; if n != 2 { } else { } }", "-."},
		{"task f() { fail 1; }", ".f"},
		{"task f() { if 1 { if 2 { } else { fail 1; } } }", ".f"},
		{"task f() { let a = 1 + 2; } task g() { let a = 1 - 2; } task h() { let a = 1 * 2; } task i() { let a = 1 / 2; }", ".f .f .f .f"},
		{"task f(x: set) { put x {1, 2 == (3 * 4)}; }", "p.f"},
		{"task f() { new x: set; all { each x as k { } } }", ".s"},
		{"task f() { spawn g(); } task g() { }", ".s ."},
		// In blocks of eaches.
		{"task f(a: flag, b: flag, c: set) { new x: set; all { each x as k { put a on; when b on { fail k; } spawn g(c, a); } } } task g(d: set, e: flag) { put d {1}; }", "pwp.fs p-."},
		// By others, and over several.
		{"task f(a: set, b: set, n: int) { spawn g(n, b, a); } task g(n: int, a: set, b: set) { spawn h(a, b); } task h(p: set, q: set) { put p {1}; when q {1} { } }", "wp-.s -pw.s pw."},
		{"task h(p: set, q: set) { put p {1}; when q {1} { } } task f(a: set, b: set, n: int) { spawn h(b, a); }", "pw. wp-.s"},
		{"task f(a: set) { spawn g(a); } task g(a: set) { spawn h(); } task h() { fail 1; }", "-.fs -.fs .f"},
		{"task f(a: set) { spawn g(a, a); } task g(a: set, b: set) { put a {1}; when b {1} { } }", "b.s pw."},
		{"task f(a: set) { share b: set; spawn g(b); } task g(a: set) { put a {1}; }", "-.s p."},
		// In circles: the least answer that there is.
		{"task f(a: set, b: set) { spawn f(b, a); }", "--.s"},
		{"task f(a: set, b: set) { spawn f(b, a); put a {1}; }", "pp.s"},
		{"task f(a: set, b: set) { spawn g(b, a); } task g(a: set, b: set) { spawn f(a, b); when a {1} { } }", "ww.s ww.s"},
		{"task f(a: set, b: set, c: set, d: set, e: set) { spawn f(e, a, b, c, d); } task g() { }", "-----.s ."},
		{"task f(a: set, b: set, c: set, d: set, e: set) { spawn f(e, a, b, c, d); put e {1}; }", "ppppp.s"},
		{"task f() { spawn g(); } task g() { spawn f(); } task h() { spawn f(); }", ".s .s .s"},
		// Uses may do everything, with all of their parameters.
		{"task f(a: set, b: set) { spawn u(1, b); } use u(int, set);", "-b.fs bb.fs"},
		{"task f(n: int, m: int) { spawn u(n); spawn u(m + 1); } use u(int);", "b-.fs b.fs"},
		{"task f() { spawn u(); } use u();", ".fs .fs"},
		{"task f() { } use u();", ". .fs"},
	} {
		var got []string
		for _, x := range mustEffects(t, mustParse(t, x.text)) {
			got = append(got, effectName(x))
		}
		if s := strings.Join(got, " "); s != x.want {
			t.Errorf("Effects of %q: %s, and not %s", x.text, s, x.want)
		}
	}
}

// effectName returns how an effect is written in TestEffects.
func effectName(x api.Effect) string {
	out := ""
	for i := range x.Puts {
		switch {
		case x.Puts[i] && x.Waits[i]:
			out += "b"
		case x.Puts[i]:
			out += "p"
		case x.Waits[i]:
			out += "w"
		default:
			out += "-"
		}
	}
	out += "."
	if x.Fails {
		out += "f"
	}
	if x.Spawns {
		out += "s"
	}
	return out
}

// P5.7: of each item there are as many Puts, and Waits, as parameters.
func TestEffectsOfAll(t *testing.T) {
	u := mustParse(t, "use a(); use b(int, set); lattice l { a } task c(n: int, x: l) { } task d() { }")
	var puts, waits []int
	for _, x := range mustEffects(t, u) {
		puts, waits = append(puts, len(x.Puts)), append(waits, len(x.Waits))
	}
	if want := []int{0, 2, 2, 0}; !slices.Equal(puts, want) || !slices.Equal(waits, want) {
		t.Errorf("Effects: %v, %v", puts, waits)
	}
}
