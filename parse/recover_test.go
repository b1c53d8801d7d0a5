package parse_test

import (
	"math/rand"
	"slices"
	"strings"
	"testing"

	"dripstone/api"
	"dripstone/lex"
	"dripstone/parse"
)

// formFlaws returns flaws of the form.
func formFlaws(places ...int) (out []api.Flaw) {
	for _, at := range places {
		out = append(out, api.Flaw{At: at, E: api.ErrForm})
	}
	return out
}

// mustRecover returns what Recover returns for a text of which it has no error.
func mustRecover(t *testing.T, s string) (api.Tree, []api.Flaw) {
	t.Helper()
	x, l, at, e := parse.Recover(s)
	if at != 0 || e != api.OK {
		t.Fatalf("Recover of %q: %v at %d", s, e, at)
	}
	if e := parse.Check(x); e != api.OK {
		t.Fatalf("Check of Recover of %q: %v", s, e)
	}
	return x, l
}

// P2.4: statements and items that are flawed are left out.
func TestRecover(t *testing.T) {
	for _, c := range []struct {
		s, kept string
		flaws   []api.Flaw
	}{
		{"", "", nil},
		{"use f();", "use f();", nil},
		// How reading goes on behind a statement.
		{"task f() { let a = 1 }", "task f() { }", formFlaws(21)},
		{"task f() { let a = 1 2; fail a; }", "task f() { fail a; }", formFlaws(21)},
		{"task f() { ; fail 1; ) }", "task f() { fail 1; }", formFlaws(11, 21)},
		{"task f() { 1 2; fail 1; }", "task f() { fail 1; }", formFlaws(11)},
		{"task f() { when x { fail 1; } fail 2; }", "task f() { fail 2; }", formFlaws(20)},
		{"task f() { new { fail 1; } fail 2; }", "task f() { fail 2; }", formFlaws(15)},
		{"task f() { { { ; } ; } fail 1; }", "task f() { fail 1; }", formFlaws(11)},
		{"task f() { fail { 1; } ; fail 1; }", "task f() { fail 1; }", formFlaws(16, 23)},
		{"task f() { put x {1; 2}; fail 1; }", "task f() { fail 1; }", formFlaws(19, 23)},
		{"task f() { put x {1 2} ; fail 1; }", "task f() { fail 1; }", formFlaws(20, 23)},
		{"task f() { put x {1} 2; fail 1; }", "task f() { fail 1; }", formFlaws(21)},
		{"task f() { put x {1} {; } fail 1; }", "task f() { fail 1; }", formFlaws(21)},
		{"task f() { put x {1} 2 { } ; fail 1; }", "task f() { fail 1; }", formFlaws(21, 27)},
		{"task f() { put x {1} } use g();", "task f() { } use g();", formFlaws(21)},
		{"task f() { fail 1 } fail 2; }", "task f() { }", formFlaws(18, 20)},
		{"task f() { fail 1; } }\nuse g();", "task f() { fail 1; } use g();", formFlaws(21)},
		// Statements in statements.
		{"task f() { all { fail; } fail 1; }", "task f() { all { } fail 1; }", formFlaws(21)},
		{"task f() { all { fail } fail 1; }", "task f() { all { } fail 1; }", formFlaws(22)},
		{"task f() { all { each x as k { fail } } }", "task f() { all { each x as k { } } }", formFlaws(36)},
		{"task f() { if 1 { fail; fail 2; } else { fail 3 } fail 4; }", "task f() { if 1 { fail 2; } else { } fail 4; }", formFlaws(22, 48)},
		{"task f() { if 1 { fail; } else 3; fail 4; }", "task f() { fail 4; }", formFlaws(22, 31)},
		{"task f() { if 1 { fail; } 3; fail 4; }", "task f() { if 1 { } fail 4; }", formFlaws(22, 26)},
		{"task f() { when x 1 { ) } } or 2 { ) } }", "task f() { when x 1 { } }", formFlaws(22, 28)},
		{"task f() { when x 1 { ) } or 2 { ) } or { ) } fail 1; }", "task f() { fail 1; }", formFlaws(22, 33, 42)},
		{"task f() { when x 1 { } or { } fail 1; } fail 2; }", "task f() { fail 1; }", formFlaws(29, 41)},
		{"task f() { all { all { ) ) } ) } }", "task f() { all { all { } } }", formFlaws(23, 29)},
		{"task f() { all x { fail; } fail 1; }", "task f() { fail 1; }", formFlaws(15)},
		// Items.
		{"task f( { }\ntask g() { }", "task g() { }", formFlaws(8)},
		{"task f(a: int, ) { fail; }\nuse g();", "use g();", formFlaws(15)},
		{"task f() fail 1; }\nuse g();", "use g();", formFlaws(9)},
		{"lattice a { b; ; c }\nlattice d { e }", "lattice d { e }", formFlaws(15)},
		{"use f()\nuse g();", "use g();", formFlaws(8)},
		{" use f()\nuse g();", "use g();", formFlaws(9)},
		{"use\nuse g();", "use g();", formFlaws(4)},
		{"use f();use g() use h();", "use f();", formFlaws(16)},
		{"use f();use g() \n use h();\n\nuse i();", "use f(); use i();", formFlaws(18)},
		{"use f(;use g();\nuse h();", "use h();", formFlaws(6)},
		{"use f();\nuse g(;\n%\nuse h();", "use f(); use h();", formFlaws(15)},
		{"x\nuse f();", "use f();", formFlaws(0)},
		{"x y\nz use g();\n use h();\nuse i();", "use i();", formFlaws(0)},
		{"use f(); x use g();\ntask h() { }", "use f(); task h() { }", formFlaws(9)},
		{"; use f();", "", formFlaws(0)},
		{";use f();", "", formFlaws(0)},
		{"fail 1; % use\nuse f();", "use f();", formFlaws(0)},
		// Item tokens behind statements.
		{"task f() { fail 1;\ntask g() { }", "task g() { }", formFlaws(19)},
		{"task f() { fail 1 +\ntask g() { }", "task g() { }", formFlaws(20)},
		{"task f() { all { fail 1 + ) x\nlattice g { a } } }", "lattice g { a }", formFlaws(26, 46)},
		{"task f() { fail ); fail 1;\nuse g();", "use g();", formFlaws(16, 27)},
		{"task f() { fail );\nuse g(); }", "use g();", formFlaws(16, 19, 28)},
		{"task f() { fail 1 )\n; } use g();", "task f() { } use g();", formFlaws(18)},
		{"task f() { fail ) task g() { } }", "task f() { }", formFlaws(16)},
		{"task f() { fail )\n task g() { } }", "task f() { }", formFlaws(16)},
		{"task f() { fail ) {\n} }\nuse g(); }", "task f() { } use g();", formFlaws(16, 33)},
		// Texts that end too early.
		{"task f(", "", formFlaws(7)}, {"task f() { fail", "", formFlaws(15)}, {"task f() { fail ", "", formFlaws(16)}, {"task f() { all { fail 1; } % }", "", formFlaws(30)},
		{"task f() { ) ) )", "", formFlaws(11, 16)}, {"task f() { all { fail; ) } ", "", formFlaws(21, 23, 27)}, {"task f() { all { fail } ", "", formFlaws(22, 24)}, {"task f() { put x { ; }", "", formFlaws(19, 22)},
		{"use f();\nlattice a { b", "use f();", formFlaws(22)}, {"lattice", "", formFlaws(7)},
	} {
		x, l := mustRecover(t, c.s)
		if !same(x, mustParse(t, c.kept)) || !slices.Equal(l, c.flaws) {
			t.Errorf("Recover of %q: %s, %v, not %v", c.s, outline(x.Nodes), l, c.flaws)
		}
	}
	// Places stay as they are in the text.
	x, _ := mustRecover(t, "x\ntask f() { fail; put a (1); }")
	if got := outline(x.Nodes); got != "(program@0 (task f@2 (block@11 (put a@19 (at@25 (num 1@26))))))" {
		t.Errorf("Recover: %s", got)
	}
}

// P2.4: items that have not the sizes.
func TestRecoverOfSizes(t *testing.T) {
	at, over, place := bigTexts()
	for i, s := range at {
		if x, l := mustRecover(t, s); l != nil || !same(x, mustParse(t, s)) {
			t.Errorf("Recover of %q: %v", s, l)
		}
		if i == 0 {
			continue // too many items are an error
		}
		want := append(formFlaws(0), api.Flaw{At: place[i] + 2, E: api.ErrRange})
		x, l := mustRecover(t, "x\n"+over[i]+"\nuse h();")
		if n := x.Nodes; !slices.Equal(l, want) || n[len(n)-1].Text != "h" || len(n) > 3 {
			t.Errorf("Recover of %q: %s, %v, not %v", over[i], outline(n), l, want)
		}
	}
	many, fails := "put x {1, 2, 3, 4, 5};", strings.Repeat("fail 1;", 12)
	for _, c := range []struct {
		s     string
		nodes int
		flaws []api.Flaw
	}{
		// The flaw of an item is met when it is read, behind those of its statements.
		{"task f() { " + many + " fail; }\nuse g(", 1, []api.Flaw{{At: 38, E: api.ErrForm}, {At: 17, E: api.ErrRange}, {At: 48, E: api.ErrForm}}},
		{"task f() { " + fails + "fail 1; }\ntask g() { fail }", 3, []api.Flaw{{At: 9, E: api.ErrRange}, {At: 121, E: api.ErrForm}}},
		// What is left out does not count.
		{"task f() { " + fails + "fail 1 }", 3 + 24, formFlaws(102)},
		{"task f() { put x {1, 2, 3, 4, 5} }", 3, formFlaws(33)},
		{"task f() { " + fails + "all { " + many + " ) ; } ) }", 1, []api.Flaw{{At: 124, E: api.ErrForm}, {At: 130, E: api.ErrForm}, {At: 9, E: api.ErrRange}}},
		{"use h();task f(a: int, b: int, c: int, d: int, e: int, f: int) { " + many + " } use g();", 3, []api.Flaw{{At: 8, E: api.ErrRange}}},
		{"use f(int);task f() { " + many + " } task g(a: int, b: int, c: int, d: int, e: int, f: int) { }\n", 3, []api.Flaw{{At: 28, E: api.ErrRange}, {At: 47, E: api.ErrRange}}},
	} {
		x, l := mustRecover(t, c.s)
		if len(x.Nodes) != c.nodes || !slices.Equal(l, c.flaws) {
			t.Errorf("Recover of %q: %s, %v", c.s, outline(x.Nodes), l)
		}
	}
}

// P2.4: the errors, and their order.
func TestRecoverOfLimits(t *testing.T) {
	uses := func(n int) string { return strings.Repeat("use f();\n", n) }
	six := "task f(a: int, b: int, c: int, d: int, e: int, f: int) { "
	for i, c := range []struct {
		s  string
		at int
		e  api.Errno
	}{
		{"task f() { & }", 11, api.ErrForm}, {"task ) 007", 7, api.ErrForm}, {")\t", 1, api.ErrForm}, {strings.Repeat(" ", api.MaxText+1), 0, api.ErrLimit}, {strings.Repeat(")", api.MaxTokens+1), api.MaxTokens, api.ErrLimit},
		{noded(600), 0, api.OK}, {noded(601), 0, api.ErrLimit}, {noded(600) + "\nuse f(", 0, api.OK}, {noded(600) + "\nuse f();", 0, api.ErrLimit}, {"x\n" + noded(601), 0, api.ErrLimit},
		{nested(30), 0, api.OK}, {nested(31), 0, api.ErrLimit}, {") \n" + nested(31), 0, api.ErrLimit},
		{uses(16), 0, api.OK}, {uses(17), 0, api.ErrRange}, {"x\n" + uses(17), 0, api.ErrRange}, {uses(16) + "use g", 0, api.OK}, {uses(16) + six + "}", 0, api.OK}, {uses(17) + nested(31), 0, api.ErrLimit},
		// Of what is left out nothing counts.
		{strings.Replace(nested(31), "1;", "1", 1), 0, api.OK}, {six + strings.TrimPrefix(nested(31), "task f() {"), 0, api.OK},
	} {
		x, l, at, e := parse.Recover(c.s)
		if at != c.at || e != c.e || e != api.OK && (x.Nodes != nil || l != nil) {
			t.Errorf("%d: Recover of %q: %v at %d", i, c.s, e, at)
		}
	}
}

// itemToken returns the first item token from one on, or -1.
func itemToken(s string, l []api.Lexeme, from int) int {
	for i := from; i < len(l); i++ {
		if word := l[i].Text; (word == "use" || word == "task" || word == "lattice") && ("\n" + s)[l[i].At] == '\n' {
			return i
		}
	}
	return -1
}

// goesOn returns with which token reading goes on behind a flawed statement, or -1, and whether it is an item token.
func goesOn(s string, l []api.Lexeme, first, flaw int) (int, bool) {
	item := itemToken(s, l, flaw)
	count := 0
	for i := first; i < len(l); i++ {
		if i == item {
			return i, true
		}
		before := count
		switch l[i].Text {
		case "{":
			count++
		case "}":
			count--
		}
		switch {
		case i < flaw:
		case l[i].Text == ";" && count == 0, l[i].Text == "}" && before != 0 && count == 0:
			return i + 1, false
		case l[i].Text == "}" && before == 0:
			return i, false
		}
	}
	return -1, false
}

// recovered says what Recover returns: the text with blanks for what is left out, and the flaws. Each time a statement is flawed its item is read again, with a token that says that it is gone. It does not say it of texts with an item that is too deep, or has too many nodes.
func (g grammar) recovered(s string) (string, []api.Flaw, bool) {
	l, _, _ := lex.Scan(s)
	plain := []byte(s)
	out, hole := make([]bool, len(l)), make([]bool, len(l))
	var flaws []api.Flaw
	blank := func(from, to int) {
		for i := from; i < to; i++ {
			out[i], hole[i] = i > from, i == from
			for k := range l[i].Text {
				plain[l[i].At+k] = ' '
			}
		}
	}
	for begin := 0; begin < len(l); {
		var kept []int
		var tokens []api.Lexeme
		for i := begin; i < len(l); i++ {
			switch {
			case hole[i]:
				kept, tokens = append(kept, i), append(tokens, api.Lexeme{Text: "GONE", At: l[i].At})
			case !out[i]:
				kept, tokens = append(kept, i), append(tokens, l[i])
			}
		}
		n, ends, stmt := g.run("item", tokens)
		if ends {
			next := kept[n-1] + 1
			item := []byte(strings.Repeat(" ", len(s)))
			for _, i := range kept[:n] {
				if !hole[i] {
					copy(item[l[i].At:], l[i].Text)
				}
			}
			_, at, e := parse.Parse(string(item))
			if e == api.ErrLimit {
				return "", nil, false
			}
			if e != api.OK {
				flaws = append(flaws, api.Flaw{At: at, E: e})
				blank(begin, next)
			}
			begin = next
			continue
		}
		next := -1
		switch {
		case n == len(kept):
			flaws = append(flaws, formFlaws(len(s))...)
		case stmt < 0:
			flaws = append(flaws, formFlaws(tokens[n].At)...)
			next = itemToken(s, l, max(kept[n], begin+1))
		default:
			flaws = append(flaws, formFlaws(tokens[n].At)...)
			to, item := goesOn(s, l, kept[stmt], kept[n])
			if to >= 0 && !item {
				blank(kept[stmt], to)
				continue
			}
			next = to
			if to < 0 {
				flaws = append(flaws, formFlaws(len(s))...)
			}
		}
		if next < 0 {
			next = len(l)
		}
		blank(begin, next)
		begin = next
	}
	return string(plain), flaws, true
}

// checkRecover holds Recover of a text against recovered.
func checkRecover(t *testing.T, g grammar, s string) int {
	t.Helper()
	want, flaws, ok := g.recovered(s)
	if !ok {
		return 0
	}
	y, at, e := parse.Parse(want)
	x, l, place, f := parse.Recover(s)
	if f != e || place != at || f == api.OK && (!slices.Equal(l, flaws) || !slices.Equal(x.Nodes, y.Nodes)) {
		t.Fatalf("Recover of %q: %s, %v, %v at %d; not %s, %v, %v at %d", s, outline(x.Nodes), l, f, place, outline(y.Nodes), flaws, e, at)
	}
	return len(l)
}

// P2.4: all rows of a few tokens in a block, and between items.
func TestRecoverOfShortRows(t *testing.T) {
	g := newGrammar()
	for _, c := range []struct {
		before, behind string
		alphabet       []string
		n              int
	}{
		{"task f() { all { fail 1; ", "fail 2; } fail 3; }", []string{"fail", "1", ";", "{", "}", "all ", "\nuse g();", "if 1", "else "}, 4},
		{"use f(); ", "\nuse h();", []string{"task", "\ntask", " f(", ")", "{", "}", ";", "\nuse g("}, 4},
		{"task f() { ", "", []string{"when x ", "1 ", "{", "}", "or ", ";", "\nuse g();"}, 5},
	} {
		flaws := 0
		var grow func(s string, n int)
		grow = func(s string, n int) {
			flaws += checkRecover(t, g, c.before+s+c.behind)
			for _, token := range c.alphabet {
				if n > 0 {
					grow(s+token, n-1)
				}
			}
		}
		grow("", c.n)
		if flaws < 1000 {
			t.Errorf("%d flaws", flaws)
		}
	}
}

// P2.4: random texts, with tokens that are put in, put away or others.
func TestRecoverOfRandomTexts(t *testing.T) {
	g := newGrammar()
	r := rand.New(rand.NewSource(4))
	alphabet := []string{"task", "use", "lattice", "{", "}", ";", "{", "}", ";", "(", ")", "a", "1", "fail", "all", "when", "or", "if", "else", "\ntask", "\nuse", ","}
	flaws := 0
	for range 6000 {
		tokens := g.derive(r, "program", 4+r.Intn(8))
		for range r.Intn(5) {
			if len(tokens) == 0 {
				break
			}
			at := r.Intn(len(tokens))
			put := alphabet[r.Intn(len(alphabet)):][:1]
			tokens = slices.Replace(slices.Clone(tokens), at, min(len(tokens), at+r.Intn(3)), put[:r.Intn(2)]...)
		}
		s := spaced(r, tokens)
		if _, _, e := lex.Scan(s); e == api.OK {
			flaws += checkRecover(t, g, s)
		}
	}
	if flaws < 2000 {
		t.Errorf("%d flaws", flaws)
	}
}

// P2.10: a text that Parse accepts has no flaws.
func TestRecoverAsItIs(t *testing.T) {
	for _, s := range append(randomTexts(10, 400), wholeText, noded(600), nested(30)) {
		x, l := mustRecover(t, s)
		if y := mustParse(t, s); l != nil || !slices.Equal(x.Nodes, y.Nodes) {
			t.Fatalf("Recover of %q: %v", s, l)
		}
	}
}

// P2.11: a statement that is put away is one flaw.
func TestRecoverOfOneLost(t *testing.T) {
	lost := 0
	for _, s := range append(randomTexts(11, 200), wholeText) {
		p, e := parse.Print(mustParse(t, s))
		if e != api.OK {
			continue
		}
		x := mustParse(t, p)
		for node, n := range x.Nodes {
			if n.Kind < api.NewStmt || n.Kind > api.FailStmt {
				continue
			}
			r, _ := parse.Range(p, node)
			less, e := parse.Splice(x, node, nil)
			if e != api.OK {
				t.Fatalf("Splice of nothing: %v", e)
			}
			lost++
			y, l := mustRecover(t, p[:r.From]+") ;"+p[r.To:])
			if is, e := parse.Same(y, less); !is || e != api.OK || !slices.Equal(l, formFlaws(r.From)) {
				t.Fatalf("Recover of %q without statement %d: %s, %v", p, node, outline(y.Nodes), l)
			}
		}
	}
	if lost < 200 {
		t.Errorf("%d statements", lost)
	}
}
