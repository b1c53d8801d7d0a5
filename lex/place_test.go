package lex_test

import (
	"math"
	"slices"
	"strings"
	"testing"

	"dripstone/api"
	"dripstone/lex"
)

// TestWhere checks P1.4: Where.
func TestWhere(t *testing.T) {
	for _, x := range []struct {
		s    string
		at   int
		want api.Where
	}{
		{"", 0, api.Where{Line: 1, Column: 1}},
		{"a\n%b\nc", 5, api.Where{Line: 3, Column: 1}},
		{"a\n%b\nc", 6, api.Where{Line: 3, Column: 2}},
		{"a\n%b\nc", 4, api.Where{Line: 2, Column: 3}},
		{"abc", 3, api.Where{Line: 1, Column: 4}},
		{"\n", 0, api.Where{Line: 1, Column: 1}},
		{"\n", 1, api.Where{Line: 2, Column: 1}},
		{"& 00\n_", 6, api.Where{Line: 2, Column: 2}},
		{strings.Repeat("\n", 2500), 2500, api.Where{Line: 2501, Column: 1}},
	} {
		if w, e := lex.Where(x.s, x.at); w != x.want || e != api.OK {
			t.Errorf("Where of %.20q, %d: %v, %v", x.s, x.at, w, e)
		}
	}
	for _, x := range []struct {
		s  string
		at int
		e  api.Errno
	}{
		{"abc", -1, api.ErrRange}, {"abc", 4, api.ErrRange}, {"", 1, api.ErrRange},
		{"abc", math.MinInt, api.ErrRange}, {"abc", math.MaxInt, api.ErrRange},
		{"a\t", 0, api.ErrForm}, {"a\t", 3, api.ErrForm},
		{strings.Repeat("\t", 2501), -1, api.ErrLimit},
	} {
		if w, e := lex.Where(x.s, x.at); w != (api.Where{}) || e != x.e {
			t.Errorf("Where of %.20q, %d: %v, %v", x.s, x.at, w, e)
		}
	}
}

// TestAt checks P1.4: At.
func TestAt(t *testing.T) {
	for _, x := range []struct {
		s            string
		line, column int
		want         int
		e            api.Errno
	}{
		{"", 1, 1, 0, api.OK},
		{"a\n%b\nc", 1, 2, 1, api.OK},
		{"a\n%b\nc", 2, 1, 2, api.OK},
		{"a\n%b\nc", 3, 2, 6, api.OK},
		{"a\n", 2, 1, 2, api.OK},
		{"a\n", 2, 2, 0, api.ErrRange},
		{"a\n%b\nc", 1, 3, 0, api.ErrRange},
		{"a\n%b\nc", 3, 3, 0, api.ErrRange},
		{"a\n%b\nc", 4, 1, 0, api.ErrRange},
		{"a\n%b\nc", 0, 1, 0, api.ErrRange},
		{"a\n%b\nc", 1, 0, 0, api.ErrRange},
		{"a\n%b\nc", 2, 0, 0, api.ErrRange},
		{"a\n%b\nc", -1, -1, 0, api.ErrRange},
		{"a\n%b\nc", math.MaxInt, math.MaxInt, 0, api.ErrRange},
		{"a\n%b\nc", 2, math.MaxInt, 0, api.ErrRange},
		{"a\n%b\nc", math.MinInt, math.MinInt, 0, api.ErrRange},
		{"a\r", 0, 0, 0, api.ErrForm},
		{strings.Repeat("\r", 2501), 0, 0, 0, api.ErrLimit},
	} {
		if at, e := lex.At(x.s, api.Where{Line: x.line, Column: x.column}); at != x.want || e != x.e {
			t.Errorf("At of %.20q, %d, %d: %d, %v", x.s, x.line, x.column, at, e)
		}
	}
}

// TestPlacesBack checks P1.14, and that At finds no place for any other line and column.
func TestPlacesBack(t *testing.T) {
	for s := range shortTexts("a\n%", 5) {
		found := map[api.Where]bool{}
		for at := range len(s) + 1 {
			w, e := lex.Where(s, at)
			back, f := lex.At(s, w)
			if back != at || e != api.OK || f != api.OK {
				t.Fatalf("%q: place %d is %v, %v, and back %d, %v", s, at, w, e, back, f)
			}
			found[w] = true
		}
		for line := range len(s) + 4 {
			for column := range len(s) + 4 {
				w := api.Where{Line: line, Column: column}
				if _, e := lex.At(s, w); (e == api.OK) != found[w] {
					t.Fatalf("At of %q, %v: %v", s, w, e)
				}
			}
		}
	}
}

// TestComments checks P1.5.
func TestComments(t *testing.T) {
	for _, x := range []struct {
		s, blank string
		want     []api.Stretch
	}{
		{"", "", nil},
		{"a b\n", "a b\n", nil},
		{"%", " ", []api.Stretch{{From: 0, To: 1}}},
		{"a\n%b\nc", "a\n  \nc", []api.Stretch{{From: 2, To: 4}}},
		{"a%%b\n%\nc % d", "a   \n \nc    ", []api.Stretch{{From: 1, To: 4}, {From: 5, To: 6}, {From: 9, To: 12}}},
		{"%\n\n%a%", " \n\n   ", []api.Stretch{{From: 0, To: 1}, {From: 3, To: 6}}},
		{"00&_% &\n", "00&_   \n", []api.Stretch{{From: 4, To: 7}}},
		{strings.Repeat(";", 901) + "%", strings.Repeat(";", 901) + " ", []api.Stretch{{From: 901, To: 902}}},
	} {
		if l, at, e := lex.Comments(x.s); !slices.Equal(l, x.want) || at != 0 || e != api.OK {
			t.Errorf("Comments of %.20q: %v, %d, %v", x.s, l, at, e)
		}
		if s, at, e := lex.Blank(x.s); s != x.blank || at != 0 || e != api.OK {
			t.Errorf("Blank of %.20q: %q, %d, %v", x.s, s, at, e)
		}
	}
	many := strings.Repeat("%\n", 1250)
	if l, _, e := lex.Comments(many); len(l) != 1250 || e != api.OK {
		t.Errorf("Comments of 1250 lines: %d, %v", len(l), e)
	}
}

// TestCommentsErrors checks the errors of P1.5 and their places.
func TestCommentsErrors(t *testing.T) {
	for _, x := range []struct {
		s  string
		at int
		e  api.Errno
	}{
		{"% \x00 \x00", 2, api.ErrForm}, {"\t", 0, api.ErrForm}, {"% a\n &\x80", 6, api.ErrForm},
		{strings.Repeat("%", 2501), 0, api.ErrLimit}, {" \x00" + strings.Repeat("%", 2500), 0, api.ErrLimit},
	} {
		if l, at, e := lex.Comments(x.s); l != nil || at != x.at || e != x.e {
			t.Errorf("Comments of %.20q: %v, %d, %v", x.s, l, at, e)
		}
		if s, at, e := lex.Blank(x.s); s != "" || at != x.at || e != x.e {
			t.Errorf("Blank of %.20q: %q, %d, %v", x.s, s, at, e)
		}
	}
}
