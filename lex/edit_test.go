package lex_test

import (
	"math"
	"strings"
	"testing"

	"dripstone/api"
	"dripstone/lex"
)

// TestApplyAndUndo checks P1.6.
func TestApplyAndUndo(t *testing.T) {
	full := strings.Repeat("a", 2500)
	for _, x := range []struct {
		s, after string
		x, undo  api.Edit
	}{
		{"", "", api.Edit{}, api.Edit{}},
		{"abc", "axyc", api.Edit{From: 1, To: 2, Put: "xy"}, api.Edit{From: 1, To: 3, Put: "b"}},
		{"abc", "", api.Edit{From: 0, To: 3}, api.Edit{From: 0, To: 0, Put: "abc"}},
		{"abc", "abc\n", api.Edit{From: 3, To: 3, Put: "\n"}, api.Edit{From: 3, To: 4}},
		{"abc", "abc", api.Edit{From: 1, To: 2, Put: "b"}, api.Edit{From: 1, To: 2, Put: "b"}},
		{"& 00", "&00", api.Edit{From: 1, To: 2}, api.Edit{From: 1, To: 1, Put: " "}},
		{"", full, api.Edit{Put: full}, api.Edit{From: 0, To: 2500}},
		{full, full, api.Edit{From: 7, To: 9, Put: "aa"}, api.Edit{From: 7, To: 9, Put: "aa"}},
	} {
		if got, e := lex.Apply(x.s, x.x); got != x.after || e != api.OK {
			t.Errorf("Apply of %.20q, %.20v: %.20q, %v", x.s, x.x, got, e)
		}
		if got, e := lex.Undo(x.s, x.x); got != x.undo || e != api.OK {
			t.Errorf("Undo of %.20q, %.20v: %.20v, %v", x.s, x.x, got, e)
		}
	}
}

// badEdits are texts with edits of them that have errors.
var badEdits = []struct {
	s string
	x api.Edit
	e api.Errno
}{
	{"abc", api.Edit{From: -1, To: 1}, api.ErrRange},
	{"abc", api.Edit{From: 2, To: 1}, api.ErrRange},
	{"abc", api.Edit{From: 0, To: 4}, api.ErrRange},
	{"abc", api.Edit{From: 4, To: 4}, api.ErrRange},
	{"abc", api.Edit{From: math.MinInt, To: math.MaxInt}, api.ErrRange},
	{"abc", api.Edit{From: math.MaxInt, To: math.MinInt}, api.ErrRange},
	{"abc", api.Edit{From: 0, To: 4, Put: "\t"}, api.ErrRange},
	{"abc", api.Edit{From: 3, To: 3, Put: "\t"}, api.ErrForm},
	{"abc", api.Edit{From: 0, To: 3, Put: "\x80"}, api.ErrForm},
	{"", api.Edit{Put: strings.Repeat("a", 2501)}, api.ErrLimit},
	{"a", api.Edit{Put: strings.Repeat("\t", 2500)}, api.ErrLimit},
	{"a\tc", api.Edit{From: 1, To: 2}, api.ErrForm},
	{"a\tc", api.Edit{From: 4, To: 1}, api.ErrForm},
	{strings.Repeat("a", 2501), api.Edit{From: 0, To: 9}, api.ErrLimit},
	{strings.Repeat("\t", 2501), api.Edit{From: -1, To: 9}, api.ErrLimit},
}

// TestEditErrors checks the errors of P1.6 and P1.8, and their order.
func TestEditErrors(t *testing.T) {
	for _, x := range badEdits {
		if got, e := lex.Apply(x.s, x.x); got != "" || e != x.e {
			t.Errorf("Apply of %.20q, %.20v: %.20q, %v", x.s, x.x, got, e)
		}
		if got, e := lex.Undo(x.s, x.x); got != (api.Edit{}) || e != x.e {
			t.Errorf("Undo of %.20q, %.20v: %.20v, %v", x.s, x.x, got, e)
		}
		// The first edit's error comes first, even if the second one would be of no text.
		if got, e := lex.Both(x.s, x.x, api.Edit{From: -1}); got != (api.Edit{}) || e != x.e {
			t.Errorf("Both of %.20q, %.20v, and none: %.20v, %v", x.s, x.x, got, e)
		}
	}
	for _, x := range []struct {
		x, y api.Edit
		e    api.Errno
	}{
		{api.Edit{Put: "ab"}, api.Edit{From: 0, To: 5}, api.OK},
		{api.Edit{Put: "ab"}, api.Edit{From: 0, To: 6}, api.ErrRange},
		{api.Edit{From: 0, To: 3}, api.Edit{From: 0, To: 1}, api.ErrRange},
		{api.Edit{From: 0, To: 3}, api.Edit{From: 0, To: 1, Put: "\t"}, api.ErrRange},
		{api.Edit{From: 0, To: 3}, api.Edit{Put: "\t"}, api.ErrForm},
		{api.Edit{From: 0, To: 2}, api.Edit{Put: strings.Repeat("\t", 2500)}, api.ErrLimit},
		{api.Edit{From: 0, To: 2}, api.Edit{Put: strings.Repeat("a", 2499)}, api.OK},
	} {
		got, e := lex.Both("abc", x.x, x.y)
		if e != x.e || e != api.OK && got != (api.Edit{}) {
			t.Errorf("Both of %v, %.20v: %.20v, %v", x.x, x.y, got, e)
		}
	}
}

// TestDiff checks P1.7.
func TestDiff(t *testing.T) {
	for _, x := range []struct {
		a, b string
		want api.Edit
	}{
		{"", "", api.Edit{}},
		{"let a = 1;", "let ab = 1;", api.Edit{From: 5, To: 5, Put: "b"}},
		{"aa", "aaa", api.Edit{From: 2, To: 2, Put: "a"}},
		{"aaa", "aa", api.Edit{From: 2, To: 3}},
		{"abc", "abc", api.Edit{From: 3, To: 3}},
		{"abab", "ab", api.Edit{From: 2, To: 4}},
		{"ab", "abab", api.Edit{From: 2, To: 2, Put: "ab"}},
		{"xbbby", "xbby", api.Edit{From: 3, To: 4}},
		{"abc", "xyz", api.Edit{From: 0, To: 3, Put: "xyz"}},
		{"abc", "xbc", api.Edit{From: 0, To: 1, Put: "x"}},
		{"abc", "", api.Edit{From: 0, To: 3}},
		{"& 00", "& 0", api.Edit{From: 3, To: 4}},
	} {
		if got, e := lex.Diff(x.a, x.b); got != x.want || e != api.OK {
			t.Errorf("Diff of %q and %q: %v, %v", x.a, x.b, got, e)
		}
	}
	long, full := strings.Repeat("a", 2501), strings.Repeat("a", 2500)
	for _, x := range []struct {
		a, b string
		e    api.Errno
	}{
		{full, full, api.OK}, {long, "", api.ErrLimit}, {"", long, api.ErrLimit},
		{"\t", long, api.ErrForm}, {long, "\t", api.ErrLimit}, {"", "\x7f", api.ErrForm}, {"\x7f", "", api.ErrForm},
	} {
		got, e := lex.Diff(x.a, x.b)
		if e != x.e || e != api.OK && got != (api.Edit{}) {
			t.Errorf("Diff of %.20q and %.20q: %.20v, %v", x.a, x.b, got, e)
		}
	}
}

// TestBoth checks P1.8.
func TestBoth(t *testing.T) {
	for _, x := range []struct {
		s          string
		x, y, want api.Edit
	}{
		{"", api.Edit{}, api.Edit{}, api.Edit{}},
		{"abc", api.Edit{From: 1, To: 2, Put: "xy"}, api.Edit{From: 2, To: 4}, api.Edit{From: 1, To: 3, Put: "x"}},
		{"abc", api.Edit{From: 1, To: 2, Put: "xy"}, api.Edit{From: 0, To: 1, Put: "q"}, api.Edit{From: 0, To: 2, Put: "qxy"}},
		{"abc", api.Edit{From: 1, To: 2, Put: "xy"}, api.Edit{From: 3, To: 3, Put: "q"}, api.Edit{From: 1, To: 2, Put: "xyq"}},
		{"abc", api.Edit{From: 1, To: 2, Put: "xy"}, api.Edit{From: 4, To: 4, Put: "q"}, api.Edit{From: 1, To: 3, Put: "xycq"}},
		{"abc", api.Edit{From: 0, To: 3}, api.Edit{Put: "new"}, api.Edit{From: 0, To: 3, Put: "new"}},
		{"abc", api.Edit{From: 1, To: 1, Put: "12"}, api.Edit{From: 2, To: 2, Put: "-"}, api.Edit{From: 1, To: 1, Put: "1-2"}},
		{"abc", api.Edit{From: 3, To: 3, Put: "d"}, api.Edit{From: 0, To: 4}, api.Edit{From: 0, To: 3}},
		{"abcdef", api.Edit{From: 4, To: 5}, api.Edit{From: 1, To: 2}, api.Edit{From: 1, To: 5, Put: "cd"}},
	} {
		if got, e := lex.Both(x.s, x.x, x.y); got != x.want || e != api.OK {
			t.Errorf("Both of %q, %v and %v: %v, %v", x.s, x.x, x.y, got, e)
		}
	}
}

// TestShortDiffs checks P1.7 and P1.12: what Diff returns makes the second text, and no edit is smaller.
func TestShortDiffs(t *testing.T) {
	for a := range shortTexts("a%", 5) {
		for b := range shortTexts("a%", 5) {
			x, e := lex.Diff(a, b)
			if e != api.OK || mustApply(t, a, x) != b {
				t.Fatalf("Diff of %q and %q: %v, %v", a, b, x, e)
			}
			for y := range edits(a, "") {
				end := len(b) - (len(a) - y.To)
				if end < y.From || a[:y.From] != b[:y.From] || a[y.To:] != b[end:] {
					continue
				}
				if y.To-y.From+end-y.From < x.To-x.From+len(x.Put) || y.From > x.From {
					t.Fatalf("Diff of %q and %q: %v, but from %d to %d is less, or further behind", a, b, x, y.From, y.To)
				}
			}
		}
	}
}

// TestShortUndos checks P1.6 and P1.12: Undo takes back, and its own Undo is the edit.
func TestShortUndos(t *testing.T) {
	for s := range shortTexts("a%\n", 4) {
		for x := range edits(s, "", "a", "b ", "%a\n") {
			after := mustApply(t, s, x)
			if after != s[:x.From]+x.Put+s[x.To:] {
				t.Fatalf("Apply of %q, %v: %q", s, x, after)
			}
			u, e := lex.Undo(s, x)
			if e != api.OK || u.From != x.From || mustApply(t, after, u) != s {
				t.Fatalf("Undo of %q, %v: %v, %v", s, x, u, e)
			}
			if back, e := lex.Undo(after, u); back != x || e != api.OK {
				t.Fatalf("Undo of %q, %v, what takes %v back: %v, %v", after, u, x, back, e)
			}
		}
	}
}

// TestShortBoths checks P1.8 and P1.12: Both does what the two edits do, from where and up to where it must.
func TestShortBoths(t *testing.T) {
	const s = "abc"
	for x := range edits(s, "", "p", "pq") {
		middle := mustApply(t, s, x)
		for y := range edits(middle, "", "r", "rs") {
			last := mustApply(t, middle, y)
			to := x.To
			if y.To >= x.From+len(x.Put) {
				to = max(to, len(s)-(len(middle)-y.To))
			}
			got, e := lex.Both(s, x, y)
			if e != api.OK || got.From != min(x.From, y.From) || got.To != to || mustApply(t, s, got) != last {
				t.Fatalf("Both of %v and %v: %v, %v", x, y, got, e)
			}
		}
	}
}
