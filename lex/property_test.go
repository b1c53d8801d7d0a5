package lex_test

import (
	"math"
	"slices"
	"strings"
	"testing"

	"dripstone/api"
	"dripstone/lex"
)

// TestShortJoins checks P1.11: Join gives the tokens back, in a text that is not longer than any that has them.
func TestShortJoins(t *testing.T) {
	for s := range shortTexts("ai10<=! \n%", 5) {
		l, _, e := lex.Scan(s)
		if e != api.OK {
			continue
		}
		bare, e := lex.Join(l)
		if e != api.OK || len(bare) > len(s) {
			t.Fatalf("Join of the tokens of %q: %q, %v", s, bare, e)
		}
		if again := mustScan(t, bare); !slices.Equal(placeless(again), placeless(l)) {
			t.Fatalf("Join of the tokens of %q: %q, whose tokens are %v", s, bare, again)
		}
	}
}

// TestShortBlanks checks P1.11: Blank changes no token and no place.
func TestShortBlanks(t *testing.T) {
	for s := range shortTexts("a1=\n %&", 5) {
		blank, _, e := lex.Blank(s)
		if e != api.OK || len(blank) != len(s) || strings.Contains(blank, "%") {
			t.Fatalf("Blank of %q: %q, %v", s, blank, e)
		}
		l, at, e := lex.Scan(s)
		m, to, f := lex.Scan(blank)
		if !slices.Equal(l, m) || at != to || e != f {
			t.Fatalf("Scan of %q and of its Blank: %v, %v", s, l, m)
		}
		if strings.Count(s, "\n") != strings.Count(blank, "\n") {
			t.Fatalf("Blank of %q has other lines: %q", s, blank)
		}
	}
}

// TestAllPairs checks P1.11: any two tokens are read again from their bare text, and a blank stands there only if it must.
func TestAllPairs(t *testing.T) {
	l := []api.Lexeme{name("a", 0), name("i", 0), name("f1", 0), name("abcdefghijkl", 0), number("0", 0), number("7", 0), number("1000000000", 0)}
	for _, text := range api.Keywords() {
		l = append(l, word(text, 0))
	}
	for _, text := range api.Signs() {
		l = append(l, sign(text, 0))
	}
	for _, a := range l {
		for _, b := range l {
			bare, e := lex.Join([]api.Lexeme{a, b})
			if e != api.OK || !slices.Equal(placeless(mustScan(t, bare)), []api.Lexeme{a, b}) {
				t.Fatalf("Join of %q and %q: %q, %v", a.Text, b.Text, bare, e)
			}
			together, _, _ := lex.Scan(a.Text + b.Text)
			if slices.Equal(placeless(together), []api.Lexeme{a, b}) != (bare == a.Text+b.Text) {
				t.Fatalf("Join of %q and %q: %q", a.Text, b.Text, bare)
			}
		}
	}
}

// TestArgumentsStay checks P2, R4 and P1.10: no argument changes, nor its spare room, and a result has memory of its own.
func TestArgumentsStay(t *testing.T) {
	l := []api.Lexeme{name("a", 0), name("b", 2), name("c", 4), name("spare", 6), name("room", 8)}
	fresh := []api.Lexeme{name("d", 2), name("more", 4)}
	keep, keepFresh := slices.Clone(l), slices.Clone(fresh)
	for _, c := range []api.Change{{Head: 1, Tail: 1, New: fresh[:1]}, {Head: 3}, {Tail: 3}, {New: fresh[:1]}, {Head: 2, Tail: 1}} {
		got, e := lex.Patch(l[:3], api.Edit{Put: "xy"}, c)
		again, _ := lex.Patch(l[:3], api.Edit{Put: "xy"}, c)
		if e != api.OK || !slices.Equal(got, again) {
			t.Errorf("Patch of %v: %v, %v, and then %v", c, got, e, again)
		}
		for i := range got[:cap(got)] {
			got[:cap(got)][i] = name("over", 99)
		}
		if !slices.Equal(l, keep) || !slices.Equal(fresh, keepFresh) {
			t.Fatalf("Patch of %v: the arguments are %v, %v", c, l, fresh)
		}
	}
	if _, e := lex.Join(l[:3]); e != api.OK || !slices.Equal(l, keep) {
		t.Errorf("Join: %v, the argument is %v", e, l)
	}
}

// TestNilAndEmpty checks R3: a nil list and an empty one are the same.
func TestNilAndEmpty(t *testing.T) {
	empty := []api.Lexeme{}
	a, e := lex.Patch(nil, api.Edit{}, api.Change{})
	b, f := lex.Patch(empty, api.Edit{}, api.Change{New: empty})
	if len(a) != 0 || len(b) != 0 || e != api.OK || f != api.OK {
		t.Errorf("Patch of nothing: %v, %v; %v, %v", a, e, b, f)
	}
	s, e := lex.Join(nil)
	u, f := lex.Join(empty)
	if s != "" || u != "" || e != api.OK || f != api.OK {
		t.Errorf("Join of nothing: %q, %v; %q, %v", s, e, u, f)
	}
}

// TestAnyValues checks P1: every function ends for all arguments, and what it gives with an error are zero values (R2).
func TestAnyValues(t *testing.T) {
	numbers := []int{math.MinInt, -1, 0, 1, 2, 3, 2500, 2501, math.MaxInt}
	strange := []string{"", "a", "%", "\x00", "\xff\xfe", "a\r\n", "A", "00", strings.Repeat("a", 2500), strings.Repeat("1", 2501), strings.Repeat(";", 2500)}
	for _, s := range strange {
		lex.Kind(s)
		lex.Comments(s)
		for _, u := range strange {
			lex.Diff(s, u)
		}
		for _, n := range numbers {
			lex.Where(s, n)
			for _, m := range numbers {
				lex.At(s, api.Where{Line: n, Column: m})
				x := api.Edit{From: n, To: m, Put: s}
				checkStrange(t, s, x)
				lex.Both(s, api.Edit{}, x)
				lex.Patch([]api.Lexeme{{At: n, Text: s}}, x, api.Change{Head: n, Tail: m})
			}
		}
	}
}

// checkStrange checks that Apply, Undo and Rescan say of an edit alike whether it can be done, as far as its texts go.
func checkStrange(t *testing.T, s string, x api.Edit) {
	t.Helper()
	after, e := lex.Apply(s, x)
	u, f := lex.Undo(s, x)
	c, at, g := lex.Rescan(s, x)
	if e != f || e != api.OK && (after != "" || u != (api.Edit{}) || g == api.OK) {
		t.Errorf("Apply and Undo of %.20q, %.20v: %v, %v, %v", s, x, e, f, g)
	}
	if g != api.OK && (c.Head != 0 || c.Tail != 0 || c.New != nil) || g == api.OK && at != 0 {
		t.Errorf("Rescan of %.20q, %.20v: %v, %d, %v", s, x, c, at, g)
	}
}
