package parse_test

import (
	"math/rand"
	"slices"
	"strings"
	"testing"

	"dripstone/api"
	"dripstone/lex"
	"dripstone/parse"
)

// P2.1: each part of the grammar, with the kinds, texts, numbers and places of its nodes.
func TestParseOfEachKind(t *testing.T) {
	for _, c := range []struct{ s, want string }{
		{"", "(program@0)"},
		{" % only\n", "(program@0)"},
		{"lattice a{b}", "(program@0 (lattice a@0 (elem b@10)))"},
		{"lattice a { b!: c, d; c: d; d! }", "(program@0 (lattice a@0 (elem b 1@12 (above c@16) (above d@19)) (elem c@22 (above d@25)) (elem d 1@28)))"},
		{"use f();", "(program@0 (use f@0))"},
		{"use f(int, a, flag);", "(program@0 (use f@0 (int@6) (named a@11) (flag@14)))"},
		{"use f(set, once, map(max), pair(a, map(b)));", "(program@0 (use f@0 (set@6) (once@11) (map@17 (max@21)) (pair@27 (named a@32) (map@35 (named b@39)))))"},
		{"task f(){}", "(program@0 (task f@0 (block@8)))"},
		{"\ntask f(a: int, b: max) { }", "(program@0 (task f@1 (param a@8 (int@11)) (param b@16 (max@19)) (block@24)))"},
		{"use f(); task g() { } use h();", "(program@0 (use f@0) (task g@9 (block@18)) (use h@22))"},
		{"task f() { new x: flag; share y: pair(max, t); }", "(program@0 (task f@0 (block@9 (new x@11 (flag@18)) (share y@24 (pair@33 (max@38) (named t@43))))))"},
		{"task f() { let a = b; put a on; }", "(program@0 (task f@0 (block@9 (let a@11 (name b@19)) (put a@22 (on@28)))))"},
		{"task f() { spawn g(); spawn g(1, a); }", "(program@0 (task f@0 (block@9 (spawn g@11) (spawn g@22 (num 1@30) (name a@33)))))"},
		{"task f() { when x 1 { } }", "(program@0 (task f@0 (block@9 (when x@11 (case@18 (at@18 (num 1@18)) (block@20))))))"},
		{"task f() { when x (1) { fail 2; } or [3] on { } or {4} { } }", "(program@0 (task f@0 (block@9 (when x@11 (case@18 (at@18 (num 1@19)) (block@22 (fail@24 (num 2@29)))) (case@37 (key@37 (num 3@38) (on@41)) (block@44)) (case@51 (keys@51 (num 4@52)) (block@55))))))"},
		{"task f() { each x as k { fail k; } }", "(program@0 (task f@0 (block@9 (each x@11 (bind k@21) (block@23 (fail@25 (name k@30)))))))"},
		{"task f() { all { } freeze x as y; }", "(program@0 (task f@0 (block@9 (all@11 (block@15)) (freeze x@19 (bind y@31)))))"},
		{"task f() { if 1 { } if 2 { } else { fail 3; } }", "(program@0 (task f@0 (block@9 (if@11 (num 1@14) (block@16)) (if@20 (num 2@23) (block@25) (block@34 (fail@36 (num 3@41)))))))"},
		{"task f() { put x a; put x #a; put x {a, 1}; put x [a] [1] on; }", "(program@0 (task f@0 (block@9 (put x@11 (at@17 (name a@17))) (put x@20 (# a@26)) (put x@30 (keys@36 (name a@37) (num 1@40))) (put x@44 (key@50 (name a@51) (key@54 (num 1@55) (on@58)))))))"},
		{"task f() { put x pair(on, ); put x pair(, #a); put x pair(1, pair(, on)); }", "(program@0 (task f@0 (block@9 (put x@11 (sides 1@17 (on@22))) (put x@29 (sides 2@35 (# a@42))) (put x@47 (sides 3@53 (at@58 (num 1@58)) (sides 2@61 (on@68)))))))"},
		{"task f() { fail 1 == 2; fail 1 != 2; fail 1 < 2; fail 1 <= 2; fail 1 > 2; fail 1 >= 2; }", "(program@0 (task f@0 (block@9 (fail@11 (==@18 (num 1@16) (num 2@21))) (fail@24 (!=@31 (num 1@29) (num 2@34))) (fail@37 (<@44 (num 1@42) (num 2@46))) (fail@49 (<=@56 (num 1@54) (num 2@59))) (fail@62 (>@69 (num 1@67) (num 2@71))) (fail@74 (>=@81 (num 1@79) (num 2@84))))))"},
		{"task f() { fail 1 + 2 - 3; fail 1 * 2 / 3; fail 1 + 2 * 3; }", "(program@0 (task f@0 (block@9 (fail@11 (-@22 (+@18 (num 1@16) (num 2@20)) (num 3@24))) (fail@27 (/@38 (*@34 (num 1@32) (num 2@36)) (num 3@40))) (fail@43 (+@50 (num 1@48) (*@54 (num 2@52) (num 3@56)))))))"},
		{"task f() { fail -1; fail --a * -(2); }", "(program@0 (task f@0 (block@9 (fail@11 (neg@16 (num 1@17))) (fail@20 (*@29 (neg@25 (neg@26 (name a@27))) (neg@31 (num 2@33)))))))"},
		{"task f() { fail ((1)); put x ((1) + 2); put x (1) + 2; }", "(program@0 (task f@0 (block@9 (fail@11 (num 1@18)) (put x@23 (at@29 (+@34 (num 1@31) (num 2@36)))) (put x@40 (at@46 (+@50 (num 1@47) (num 2@52)))))))"},
		{"task f() { fail size(x) + has(x, 1 < 2) + value(y, (a)); }", "(program@0 (task f@0 (block@9 (fail@11 (+@40 (+@24 (size x@16) (has x@26 (<@35 (num 1@33) (num 2@37)))) (value y@42 (name a@52)))))))"},
		{"task f() { fail 0; fail 1000000000; }", "(program@0 (task f@0 (block@9 (fail@11 (num 0@16)) (fail@19 (num 1000000000@24)))))"},
	} {
		x := mustParse(t, c.s)
		if got := outline(x.Nodes); got != c.want {
			t.Errorf("Parse of %q:\n%s\n%s", c.s, got, c.want)
		}
		if e := parse.Check(x); e != api.OK {
			t.Errorf("Check of Parse of %q: %v", c.s, e)
		}
	}
}

// P2.1: the grammar does not go on with a token, or the text ends too early.
func TestParseOfWrongTexts(t *testing.T) {
	for _, c := range []struct {
		s  string
		at int
	}{
		{"task f() { let a = 1 }", 21}, {"task f(", 7}, {"a", 0}, {";", 0}, {"use f(); ;", 9},
		{"lattice", 7}, {"lattice map { a }", 8}, {"lattice a b", 10}, {"lattice a { }", 12}, {"lattice a { b; }", 15}, {"lattice a { b: }", 15}, {"lattice a { b: c, }", 18}, {"lattice a { b:! }", 14}, {"lattice a { b; c: d! }", 19}, {"lattice a { 1 }", 12},
		{"use f", 5}, {"use f(int)", 10}, {"use f(,);", 6}, {"use f(int,);", 10}, {"use f(on);", 6}, {"use f(map(int));", 10}, {"use f(map());", 10}, {"use f(map(set, set));", 13}, {"use f(pair(set));", 14}, {"use f(pair(set, set, set));", 19}, {"use f(pair(int, set));", 11}, {"use f(pair(set, int));", 16}, {"use f(int) {}", 11},
		{"task f", 6}, {"task 1", 5}, {"task task", 5}, {"task f() {", 10}, {"task f();", 8}, {"task f(a) {}", 8}, {"task f(a: int,) {}", 14}, {"task f(a: ) {}", 10}, {"task f(int: int) {}", 7}, {"task f() {} }", 12},
		{"task f() { new x: int; }", 18}, {"task f() { new x; }", 16}, {"task f() { share x: set }", 24}, {"task f() { new : set; }", 15}, {"task f() { let a 1; }", 17}, {"task f() { let a = ; }", 19}, {"task f() { let a == 1; }", 17},
		{"task f() { put x; }", 16}, {"task f() { put x 1 2; }", 19}, {"task f() { put on on; }", 15}, {"task f() { put x {}; }", 18}, {"task f() { put x {1,}; }", 20}, {"task f() { put x []on; }", 18}, {"task f() { put x [1]; }", 20}, {"task f() { put x #1; }", 18}, {"task f() { put x #; }", 18},
		{"task f() { put x pair(, ); }", 24}, {"task f() { put x pair(); }", 22}, {"task f() { put x pair(on); }", 24}, {"task f() { put x pair(on, on, ); }", 28}, {"task f() { put x pair on; }", 22},
		{"task f() { spawn f; }", 18}, {"task f() { spawn f(,); }", 19}, {"task f() { spawn f(1,); }", 21}, {"task f() { spawn f(on); }", 19}, {"task f() { spawn f() }", 21},
		{"task f() { when x { } }", 20}, {"task f() { when { } }", 16}, {"task f() { when x 1; }", 19}, {"task f() { when x 1 { } or { } }", 29}, {"task f() { when x 1 { }; }", 23}, {"task f() { or 1 { } }", 11}, {"task f() { when x { 1 } }", 24},
		{"task f() { each x { } }", 18}, {"task f() { each x as { } }", 21}, {"task f() { each x as k; }", 22}, {"task f() { all x { } }", 15}, {"task f() { all { } else { } }", 19}, {"task f() { freeze x; }", 19}, {"task f() { freeze x as ; }", 23}, {"task f() { freeze x as y z; }", 25},
		{"task f() { if { } }", 14}, {"task f() { if 1; }", 15}, {"task f() { if 1 { } else 2; }", 25}, {"task f() { if 1 { } else { } else { } }", 29}, {"task f() { else { } }", 11}, {"task f() { fail; }", 15}, {"task f() { 1; }", 11}, {"task f() { { } }", 11}, {"task f() { ; }", 11}, {"task f() { task }", 11},
		{"task f() { fail 1 < 2 < 3; }", 22}, {"task f() { fail 1 == 2 != 3; }", 23}, {"task f() { fail 1 +; }", 19}, {"task f() { fail 1 + * 2; }", 20}, {"task f() { fail + 1; }", 16}, {"task f() { fail 1 - ; }", 20}, {"task f() { fail -; }", 17}, {"task f() { fail (1; }", 18}, {"task f() { fail (); }", 17}, {"task f() { fail 1); }", 17}, {"task f() { fail 1 = 2; }", 18}, {"task f() { fail !1; }", 16},
		{"task f() { fail size(1); }", 21}, {"task f() { fail size x; }", 21}, {"task f() { fail size(x, 1); }", 22}, {"task f() { fail has(x); }", 21}, {"task f() { fail has(1, x); }", 20}, {"task f() { fail value(x, ); }", 25}, {"task f() { fail value(x, 1, 2); }", 26},
		{"use f(); % task g( {\n use", 25},
	} {
		x, at, e := parse.Parse(c.s)
		if at != c.at || e != api.ErrForm || x.Nodes != nil {
			t.Errorf("Parse of %q: %v, %v at %d, not %d", c.s, x, e, at, c.at)
		}
		if r, e := parse.Range(c.s, 0); r != (api.Stretch{}) || e != api.ErrForm {
			t.Errorf("Range of %q: %v, %v", c.s, r, e)
		}
	}
}

// P2.1: Parse stops where the grammar, read as it is written, does not go on.
func TestParseAgainstTheGrammar(t *testing.T) {
	g := newGrammar()
	r := rand.New(rand.NewSource(2))
	alphabet := []string{"task", "use", "lattice", "when", "if", "else", "or", "each", "as", "all", "fail", "put", "new", "freeze", "let", "spawn", "pair", "map", "size", "has", "on", "int", "set", "a", "1", "(", ")", "{", "}", "[", "]", ",", ";", ":", "#", "!", "=", "<", "-", "*"}
	right, wrong := 0, 0
	for range 6000 {
		tokens := g.derive(r, "program", 3+r.Intn(9))
		for range r.Intn(3) {
			if len(tokens) == 0 {
				break
			}
			at := r.Intn(len(tokens))
			put := alphabet[r.Intn(len(alphabet)):][:1]
			tokens = slices.Replace(slices.Clone(tokens), at, min(len(tokens), at+r.Intn(3)), put[:r.Intn(2)]...)
		}
		s := spaced(r, tokens)
		l, _, e := lex.Scan(s)
		if e != api.OK {
			continue
		}
		n, ends, _ := g.run("program", l)
		x, at, e := parse.Parse(s)
		switch {
		case n == len(l) && ends:
			right++
			if e == api.ErrForm {
				t.Errorf("Parse of %q: %v at %d", s, e, at)
			}
		default:
			wrong++
			want := len(s)
			if n < len(l) {
				want = l[n].At
			}
			if at != want || e != api.ErrForm || x.Nodes != nil {
				t.Errorf("Parse of %q: %v at %d, not %d", s, e, at, want)
			}
		}
	}
	if right < 1000 || wrong < 1000 {
		t.Errorf("%d right texts, %d wrong ones", right, wrong)
	}
}

// bigTexts are texts of which each has just as much as it may have, with what makes it more.
func bigTexts() (at []string, over []string, place []int) {
	task := func(s string) string { return "use g();\ntask f() { " + s + "}" }
	add := func(s, more string, from int) {
		at, over, place = append(at, s), append(over, more), append(place, from)
	}
	n := func(s string, n int) string { return strings.Repeat(s, n) }
	add(n("use f();", 16), n("use f();", 17), 0)
	add("lattice a { b"+n("; c", 11)+" }", "lattice a { b"+n("; c", 12)+" }", 0)
	add("lattice a { b; c: d"+n(", e", 11)+"; d }", "lattice a { b; c: d"+n(", e", 12)+"; d }", 15)
	add("use f(int"+n(", set", 4)+");", "\nuse f(int"+n(", set", 5)+");", 1)
	add("task f(a: int"+n(", b: set", 4)+") { }", "\ntask f(a: int"+n(", b: set", 5)+") { }", 1)
	add(task("spawn f(1"+n(", 2", 4)+");"), task("spawn f(1"+n(", 2", 5)+");"), 20)
	add(task(n("fail 1;", 12)), task(n("fail 1;", 13)), 18)
	add(task("all {"+n("fail 1;", 12)+"}"), task("all {"+n("fail 1;", 13)+"}"), 24)
	add(task("when x 1 { } "+n("or 2 { } ", 3)), task("when x 1 { } "+n("or 2 { } ", 4)), 20)
	add(task("put x {1"+n(", 2", 3)+"};"), task("put x {1"+n(", 2", 4)+"};"), 26)
	return at, over, place
}

// P2.1: all sizes can be reached, and none passed.
func TestParseOfSizes(t *testing.T) {
	at, over, place := bigTexts()
	for i, s := range at {
		x := mustParse(t, s)
		if e := parse.Check(x); e != api.OK {
			t.Errorf("Check of Parse of %q: %v", s, e)
		}
		if x, at, e := parse.Parse(over[i]); at != place[i] || e != api.ErrRange || x.Nodes != nil {
			t.Errorf("Parse of %q: %v at %d, not %d", over[i], e, at, place[i])
		}
	}
	// Of several nodes that have too much it is the first one by number: a task before its statements, and a block before what is in it.
	many := "put x {1, 2, 3, 4, 5};"
	for s, want := range map[string]int{
		"task f() { " + many + strings.Repeat("fail 1;", 12) + "}":                                    9,
		"task f() { " + strings.Repeat("fail 1;", 11) + many + "}":                                    94,
		"task f() { " + many + "}" + "task g(a: int, b: int, c: int, d: int, e: int, f: int) { }":     17,
		"use f(); task f(a: int, b: int, c: int, d: int, e: int, f: int) { " + many + "}":             9,
		strings.Repeat("use f();", 16) + "task g(a: int, b: int, c: int, d: int, e: int, f: int) { }": 0,
	} {
		if _, at, e := parse.Parse(s); at != want || e != api.ErrRange {
			t.Errorf("Parse of %q: %v at %d", s, e, at)
		}
	}
}

// nested returns a task whose tree has a depth, of 5 or more.
func nested(depth int) string {
	return "task f() { fail " + strings.Repeat("-", depth-5) + "1; }"
}

// noded returns a text whose tree has a number of nodes: 1 + 2 + 12 * (2 + ..).
func noded(nodes int) string {
	out := ""
	for nodes--; nodes > 0; {
		nodes -= 2
		out += "task f(){"
		for i := 0; i < 12 && nodes > 0; i++ {
			exprs := min(nodes-1, 13)
			if exprs%2 == 0 {
				out += "fail -a" + strings.Repeat("+a", (exprs-2)/2) + ";"
			} else {
				out += "fail a" + strings.Repeat("+a", (exprs-1)/2) + ";"
			}
			nodes -= exprs + 1
		}
		out += "}"
	}
	return out
}

// P2.1, P2.4: the limits of trees can be reached, and not be passed; and the order of errors.
func TestParseOfLimits(t *testing.T) {
	if x := mustParse(t, noded(600)); len(x.Nodes) != 600 {
		t.Fatalf("%d nodes", len(x.Nodes))
	}
	mustParse(t, nested(30))
	manyItems := strings.Repeat("use f();", 17)
	manyStmts := "task g() {" + strings.Repeat("fail 1;", 13) + "}"
	for _, c := range []struct {
		s  string
		at int
		e  api.Errno
	}{
		{noded(601), 0, api.ErrLimit}, {nested(31), 0, api.ErrLimit},
		// Those of Scan come first.
		{"task ) & " + strings.Repeat(" ", api.MaxText), 0, api.ErrLimit}, {"task ) 007", 7, api.ErrForm}, {"task )\t", 6, api.ErrForm}, {strings.Repeat(")", api.MaxTokens+1), api.MaxTokens, api.ErrLimit},
		// The form comes before limits, and these before sizes.
		{nested(31) + " task g(", len(nested(31)) + 8, api.ErrForm}, {manyStmts + "x", len(manyStmts), api.ErrForm}, {manyItems + manyStmts + nested(31), 0, api.ErrLimit}, {"\n" + manyStmts + noded(601), 0, api.ErrLimit}, {" " + manyStmts, 10, api.ErrRange},
	} {
		if x, at, e := parse.Parse(c.s); at != c.at || e != c.e || x.Nodes != nil {
			t.Errorf("Parse of %q: %v at %d, not %v at %d", c.s, e, at, c.e, c.at)
		}
		if r, e := parse.Range(c.s, -1); r != (api.Stretch{}) || e != c.e {
			t.Errorf("Range of %q: %v, %v", c.s, r, e)
		}
	}
	// Brackets are no nodes.
	mustParse(t, "task f() { fail "+strings.Repeat("(", 400)+"1"+strings.Repeat(")", 400)+"; }")
}
