package lex_test

import (
	"math"
	"slices"
	"strings"
	"testing"

	"dripstone/api"
	"dripstone/lex"
)

// TestRescan checks P1.9.
func TestRescan(t *testing.T) {
	for _, x := range []struct {
		s    string
		x    api.Edit
		want api.Change
	}{
		{"", api.Edit{}, api.Change{}},
		{"a b c", api.Edit{From: 2, To: 3, Put: "% "}, api.Change{Head: 1}},
		{"a b c", api.Edit{From: 3, To: 3, Put: "d"}, api.Change{Head: 1, Tail: 1, New: []api.Lexeme{name("bd", 2)}}},
		{"a b c", api.Edit{From: 2, To: 3, Put: "b"}, api.Change{Head: 1, Tail: 1, New: []api.Lexeme{name("b", 2)}}},
		{"a b c", api.Edit{From: 5, To: 5}, api.Change{Head: 3}},
		{"a b c", api.Edit{From: 0, To: 0}, api.Change{Tail: 3}},
		{"a b c", api.Edit{From: 4, To: 4}, api.Change{Head: 2, Tail: 1}},
		{"abc d", api.Edit{From: 1, To: 2, Put: "b"}, api.Change{Head: 1, Tail: 1}},
		{"a = b", api.Edit{From: 3, To: 3, Put: "="}, api.Change{Head: 1, Tail: 1, New: []api.Lexeme{sign("==", 2)}}},
		{"a %b\nc", api.Edit{From: 2, To: 3}, api.Change{Head: 1, Tail: 1, New: []api.Lexeme{name("b", 2)}}},
		{"a b\nc", api.Edit{From: 1, To: 1, Put: "%"}, api.Change{Head: 1, Tail: 1}},
		{"i f", api.Edit{From: 1, To: 2}, api.Change{New: []api.Lexeme{word("if", 0)}}},
		{"a\na\na", api.Edit{From: 0, To: 2}, api.Change{Tail: 2}},
		{"", api.Edit{Put: "a b"}, api.Change{New: []api.Lexeme{name("a", 0), name("b", 2)}}},
		{"a b", api.Edit{From: 0, To: 3}, api.Change{}},
	} {
		got, at, e := lex.Rescan(x.s, x.x)
		if got.Head != x.want.Head || got.Tail != x.want.Tail || !slices.Equal(got.New, x.want.New) || at != 0 || e != api.OK {
			t.Errorf("Rescan of %q, %v: %v, %d, %v", x.s, x.x, got, at, e)
		}
	}
}

// TestRescanErrors checks the errors of P1.9, their places and their order.
func TestRescanErrors(t *testing.T) {
	full := strings.Repeat(";", 900)
	for _, x := range []struct {
		s  string
		x  api.Edit
		at int
		e  api.Errno
	}{
		{strings.Repeat("\t", 2501), api.Edit{From: -1}, 0, api.ErrLimit},
		{"a \t", api.Edit{From: 2, To: 3}, 2, api.ErrForm},
		{"a 00", api.Edit{From: 2, To: 4}, 2, api.ErrForm},
		{"a 00", api.Edit{From: 9, To: 4}, 2, api.ErrForm},
		{full + " ;", api.Edit{From: 0, To: 9}, 901, api.ErrLimit},
		{"a b", api.Edit{From: -1, To: 1}, 0, api.ErrRange},
		{"a b", api.Edit{From: 2, To: 1}, 0, api.ErrRange},
		{"a b", api.Edit{From: 1, To: 4, Put: "\t"}, 0, api.ErrRange},
		{"a b", api.Edit{From: math.MinInt, To: math.MaxInt}, 0, api.ErrRange},
		{"a b", api.Edit{From: 1, To: 1, Put: " 00"}, 2, api.ErrForm},
		{"a b", api.Edit{From: 1, To: 2, Put: "00\x00"}, 3, api.ErrForm},
		{"a b", api.Edit{Put: strings.Repeat("\t", 2498)}, 0, api.ErrLimit},
		{"a b", api.Edit{From: 3, To: 3, Put: strings.Repeat(" ", 2497)}, 0, api.OK},
		{full, api.Edit{From: 1, To: 1, Put: " ;"}, 901, api.ErrLimit},
		{full, api.Edit{From: 1, To: 1, Put: "  "}, 0, api.OK},
		{full, api.Edit{From: 900, To: 900, Put: "&"}, 900, api.ErrForm},
	} {
		got, at, e := lex.Rescan(x.s, x.x)
		if at != x.at || e != x.e || e != api.OK && (got.Head != 0 || got.Tail != 0 || got.New != nil) {
			t.Errorf("Rescan of %.20q, %.20v: %.20v, %d, %v", x.s, x.x, got, at, e)
		}
	}
}

// TestPatch checks P1.10.
func TestPatch(t *testing.T) {
	l := []api.Lexeme{{Text: "a", At: 5}, {Kind: 77, Text: "& ", At: 9}, {At: 0}}
	for _, x := range []struct {
		x    api.Edit
		c    api.Change
		want []api.Lexeme
	}{
		{api.Edit{}, api.Change{}, nil},
		{api.Edit{From: 6, To: 8}, api.Change{Head: 3}, l},
		{api.Edit{From: 6, To: 8, Put: "abc"}, api.Change{Tail: 3}, []api.Lexeme{{Text: "a", At: 6}, {Kind: 77, Text: "& ", At: 10}, {At: 1}}},
		{api.Edit{From: 6, To: 8}, api.Change{Head: 1, Tail: 1, New: []api.Lexeme{name("n", 2500)}}, []api.Lexeme{{Text: "a", At: 5}, name("n", 2500), {At: -2}}},
		{api.Edit{From: 0, To: 2500}, api.Change{Tail: 1}, []api.Lexeme{{At: -2500}}},
		{api.Edit{From: 2500, To: 2500, Put: strings.Repeat("\t", 2500)}, api.Change{Head: 1, Tail: 2}, []api.Lexeme{{Text: "a", At: 5}, {Kind: 77, Text: "& ", At: 2509}, {At: 2500}}},
	} {
		if got, e := lex.Patch(l, x.x, x.c); !slices.Equal(got, x.want) || e != api.OK {
			t.Errorf("Patch of %.20v, %v: %v, %v", x.x, x.c, got, e)
		}
	}
}

// TestPatchErrors checks the errors of P1.10, and their order.
func TestPatchErrors(t *testing.T) {
	lexemes := func(n int) []api.Lexeme { return make([]api.Lexeme, n) }
	bad := []api.Lexeme{{At: -1}}
	far := []api.Lexeme{{At: 2501}}
	long := strings.Repeat("a", 2501)
	for i, x := range []struct {
		l []api.Lexeme
		x api.Edit
		c api.Change
		e api.Errno
	}{
		{lexemes(900), api.Edit{}, api.Change{Head: 450, Tail: 450}, api.OK},
		{lexemes(901), api.Edit{}, api.Change{}, api.ErrLimit},
		{lexemes(901), api.Edit{From: -1}, api.Change{New: bad}, api.ErrLimit},
		{nil, api.Edit{}, api.Change{New: lexemes(900)}, api.OK},
		{nil, api.Edit{}, api.Change{New: lexemes(901)}, api.ErrLimit},
		{nil, api.Edit{Put: long}, api.Change{}, api.ErrLimit},
		{nil, api.Edit{Put: long, From: -1}, api.Change{Head: -1}, api.ErrLimit},
		{nil, api.Edit{From: 0, To: 2500}, api.Change{}, api.OK},
		{nil, api.Edit{From: -1, To: 0}, api.Change{}, api.ErrRange},
		{nil, api.Edit{From: 2, To: 1}, api.Change{}, api.ErrRange},
		{nil, api.Edit{From: 0, To: 2501}, api.Change{}, api.ErrRange},
		{nil, api.Edit{From: 2501, To: 2501}, api.Change{}, api.ErrRange},
		{nil, api.Edit{From: math.MinInt, To: math.MaxInt}, api.Change{}, api.ErrRange},
		{lexemes(2), api.Edit{}, api.Change{Head: -1}, api.ErrRange},
		{lexemes(2), api.Edit{}, api.Change{Tail: -1}, api.ErrRange},
		{lexemes(2), api.Edit{}, api.Change{Head: 3, Tail: -1}, api.ErrRange},
		{lexemes(2), api.Edit{}, api.Change{Head: 3}, api.ErrRange},
		{lexemes(2), api.Edit{}, api.Change{Tail: 3}, api.ErrRange},
		{lexemes(2), api.Edit{}, api.Change{Head: 2, Tail: 1}, api.ErrRange},
		{lexemes(2), api.Edit{}, api.Change{Head: math.MaxInt, Tail: math.MaxInt}, api.ErrRange},
		{lexemes(2), api.Edit{}, api.Change{Head: 1, Tail: math.MaxInt}, api.ErrRange},
		{lexemes(2), api.Edit{}, api.Change{Head: math.MinInt, Tail: math.MinInt}, api.ErrRange},
		{bad, api.Edit{}, api.Change{}, api.ErrRange},
		{far, api.Edit{}, api.Change{}, api.ErrRange},
		{nil, api.Edit{}, api.Change{New: bad}, api.ErrRange},
		{nil, api.Edit{}, api.Change{New: far}, api.ErrRange},
		{lexemes(900), api.Edit{}, api.Change{Head: 899, New: lexemes(1)}, api.OK},
		{lexemes(900), api.Edit{}, api.Change{Head: 899, Tail: 1, New: lexemes(1)}, api.ErrLimit},
		{lexemes(900), api.Edit{}, api.Change{Head: 1, New: lexemes(900)}, api.ErrLimit},
		{append(lexemes(899), bad...), api.Edit{}, api.Change{Head: 1, New: lexemes(900)}, api.ErrRange},
	} {
		got, e := lex.Patch(x.l, x.x, x.c)
		if e != x.e || e != api.OK && got != nil {
			t.Errorf("Patch %d: %d tokens, %v", i, len(got), e)
		}
	}
}

// slowHead and slowTail return how many tokens stay, tried from the greatest number on.
func slowHead(old, now []api.Lexeme, x api.Edit) int {
	n := min(len(old), len(now))
	for ; n > 0; n-- {
		if slices.Equal(old[:n], now[:n]) && old[n-1].At < x.From {
			break
		}
	}
	return n
}

func slowTail(old, now []api.Lexeme, x api.Edit, by int) int {
	n := min(len(old), len(now))
	for ; n > 0; n-- {
		moved := slices.Clone(old[len(old)-n:])
		for i := range moved {
			moved[i].At += by
		}
		if slices.Equal(moved, now[len(now)-n:]) && old[len(old)-n].At >= x.To {
			break
		}
	}
	return n
}

// TestShortChanges checks P1.9, P1.10 and P1.13 with all edits of short texts.
func TestShortChanges(t *testing.T) {
	for s := range shortTexts("ai1= \n%", 4) {
		old, _, _ := lex.Scan(s)
		for x := range edits(s, "", "a", "f", "=", "%", "\n", " b") {
			after := mustApply(t, s, x)
			now, _, _ := lex.Scan(after)
			c, at, e := lex.Rescan(s, x)
			head, tail := slowHead(old, now, x), slowTail(old, now, x, len(after)-len(s))
			if c.Head != head || c.Tail != tail || !slices.Equal(c.New, now[head:len(now)-tail]) || at != 0 || e != api.OK {
				t.Fatalf("Rescan of %q, %v: %v, %d, %v; not %d, %d", s, x, c, at, e, head, tail)
			}
			if got, e := lex.Patch(old, x, c); !slices.Equal(got, now) || e != api.OK {
				t.Fatalf("Patch of %q, %v: %v, %v; not %v", s, x, got, e, now)
			}
			checkWhatStays(t, s, x, old, c)
		}
	}
}

// checkWhatStays checks P1.13: the tokens before the edit, and on lines behind it, stay.
func checkWhatStays(t *testing.T, s string, x api.Edit, old []api.Lexeme, c api.Change) {
	t.Helper()
	feed := strings.IndexByte(s[x.To:], '\n')
	for i, l := range old {
		if l.At+len(l.Text) < x.From && i >= c.Head {
			t.Fatalf("Rescan of %q, %v: %v stands before, but is not in the head: %v", s, x, l, c)
		}
		if feed >= 0 && l.At > x.To+feed && i < len(old)-c.Tail {
			t.Fatalf("Rescan of %q, %v: %v stands on a line behind, but is not in the tail: %v", s, x, l, c)
		}
	}
}
