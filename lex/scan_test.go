package lex_test

import (
	"regexp"
	"slices"
	"strconv"
	"strings"
	"testing"

	"dripstone/api"
	"dripstone/lex"
)

// TestScan checks P1.1 with ordinary texts.
func TestScan(t *testing.T) {
	for _, x := range []struct {
		s    string
		want []api.Lexeme
	}{
		{"", nil},
		{" \n\n ", nil},
		{"%", nil},
		{"% one\n%two", nil},
		{"put x {1};% one", []api.Lexeme{word("put", 0), name("x", 4), sign("{", 6), number("1", 7), sign("}", 8), sign(";", 9)}},
		{"a <== b", []api.Lexeme{name("a", 0), sign("<=", 2), sign("=", 4), name("b", 6)}},
		{"===!=!", []api.Lexeme{sign("==", 0), sign("=", 2), sign("!=", 3), sign("!", 5)}},
		{">=>", []api.Lexeme{sign(">=", 0), sign(">", 2)}},
		{"12ab3 0a", []api.Lexeme{number("12", 0), name("ab3", 2), number("0", 6), name("a", 7)}},
		{"a%b\nc%\nd", []api.Lexeme{name("a", 0), name("c", 4), name("d", 7)}},
		{"all all1 al", []api.Lexeme{word("all", 0), name("all1", 4), name("al", 9)}},
		{"-1", []api.Lexeme{sign("-", 0), number("1", 1)}},
		{"az09", []api.Lexeme{name("az09", 0)}},
		{"abcdefghijkl 1000000000", []api.Lexeme{name("abcdefghijkl", 0), number("1000000000", 13)}},
	} {
		if got, at, e := lex.Scan(x.s); !slices.Equal(got, x.want) || at != 0 || e != api.OK {
			t.Errorf("Scan of %q: %v, %d, %v", x.s, got, at, e)
		}
	}
}

// TestScanKinds checks P1.1: each keyword and each sign is read as what it is.
func TestScanKinds(t *testing.T) {
	for _, text := range api.Keywords() {
		if got := mustScan(t, " "+text); !slices.Equal(got, []api.Lexeme{word(text, 1)}) {
			t.Errorf("keyword %q: %v", text, got)
		}
	}
	for _, text := range api.Signs() {
		if got := mustScan(t, " "+text); !slices.Equal(got, []api.Lexeme{sign(text, 1)}) {
			t.Errorf("sign %q: %v", text, got)
		}
	}
}

// TestScanErrors checks the errors of P1.1, their places and their order.
func TestScanErrors(t *testing.T) {
	for _, x := range []struct {
		s  string
		at int
		e  api.Errno
	}{
		{strings.Repeat(" ", 2500), 0, api.OK},
		{"% ~}|{_^]AZ`@?>&'$#!\"", 0, api.OK},
		{"a ~", 2, api.ErrForm},
		{strings.Repeat(" ", 2501), 0, api.ErrLimit},
		{"\x00" + strings.Repeat(" ", 2500), 0, api.ErrLimit},
		{"a\tb\x00", 1, api.ErrForm},
		{"a \x1f", 2, api.ErrForm},
		{"a \x7f", 2, api.ErrForm},
		{"ab\r\n", 2, api.ErrForm},
		{"% \xff", 2, api.ErrForm},
		{"& 00 \x80", 5, api.ErrForm},
		{"a & b", 2, api.ErrForm},
		{"A", 0, api.ErrForm},
		{"aB", 1, api.ErrForm},
		{"a_b", 1, api.ErrForm},
		{"a 007", 2, api.ErrForm},
		{"a 00", 2, api.ErrForm},
		{"1000000000 1000000001", 11, api.ErrForm},
		{"x 99999999999999999999999999", 2, api.ErrForm},
		{"x 18446744073709551617", 2, api.ErrForm},
		{"abcdefghijkl abcdefghijklm", 13, api.ErrForm},
		{"1abcdefghijklm", 1, api.ErrForm},
		{"00 &", 0, api.ErrForm},
		{strings.Repeat(";", 900) + " % &", 0, api.OK},
		{strings.Repeat(";", 901), 900, api.ErrLimit},
		{strings.Repeat(";", 900) + " a &", 901, api.ErrLimit},
		{strings.Repeat(";", 900) + " 00", 901, api.ErrForm},
		{strings.Repeat(";", 899) + "&;;;", 899, api.ErrForm},
		{strings.Repeat(";", 901) + "\x00", 901, api.ErrForm},
	} {
		l, at, e := lex.Scan(x.s)
		if at != x.at || e != x.e || e != api.OK && l != nil {
			t.Errorf("Scan of %.40q: %d tokens, %d, %v", x.s, len(l), at, e)
		}
	}
}

var (
	gapForm  = regexp.MustCompile(`^([ \n]|%[^\n]*)*`)
	wordForm = regexp.MustCompile(`^[a-z][a-z0-9]*`)
	digits   = regexp.MustCompile(`^[0-9]+`)
	signForm = regexp.MustCompile(`^([=!<>]=|[-=!<>+*/#()\[\]{},;:])`)
)

// slowScan reads the tokens of a short text by regular expressions; its int is the place of a token that is none, or -1.
func slowScan(s string) ([]api.Lexeme, int) {
	var out []api.Lexeme
	for at := len(gapForm.FindString(s)); at < len(s); at += len(gapForm.FindString(s[at:])) {
		var x api.Lexeme
		switch rest := s[at:]; {
		case wordForm.MatchString(rest):
			x = name(wordForm.FindString(rest), at)
			if slices.Contains(api.Keywords(), x.Text) {
				x.Kind = api.WordToken
			}
		case digits.MatchString(rest):
			x = number(digits.FindString(rest), at)
		case signForm.MatchString(rest):
			x = sign(signForm.FindString(rest), at)
		}
		n, _ := strconv.Atoi(x.Text)
		if x.Text == "" || x.Kind == api.NameToken && len(x.Text) > 12 || x.Kind == api.NumberToken && strconv.Itoa(n) != x.Text {
			return nil, at
		}
		out = append(out, x)
		at += len(x.Text)
	}
	return out, -1
}

// TestScanShortTexts checks P1.1 with all short texts of some bytes.
func TestScanShortTexts(t *testing.T) {
	for s := range shortTexts("aif01<=! \n%;&", 4) {
		want, bad := slowScan(s)
		got, at, e := lex.Scan(s)
		if bad >= 0 && (got != nil || at != bad || e != api.ErrForm) {
			t.Fatalf("Scan of %q: %v, %d, %v; an error at %d", s, got, at, e, bad)
		}
		if bad < 0 && (!slices.Equal(got, want) || at != 0 || e != api.OK) {
			t.Fatalf("Scan of %q: %v, %d, %v; not %v", s, got, at, e, want)
		}
	}
}

// TestKind checks P1.2.
func TestKind(t *testing.T) {
	for text, want := range map[string]uint8{
		"x": api.NameToken, "a1": api.NameToken, "alls": api.NameToken, "abcdefghijkl": api.NameToken,
		"0": api.NumberToken, "10": api.NumberToken, "1000000000": api.NumberToken,
		"all": api.WordToken, "when": api.WordToken, "<": api.SignToken, "!=": api.SignToken, ":": api.SignToken,
	} {
		if kind, e := lex.Kind(text); kind != want || e != api.OK {
			t.Errorf("Kind of %q: %d, %v", text, kind, e)
		}
	}
	for _, text := range []string{
		"", " ", "\n", "%", "%a", " x", "x ", "x\n", "x%", "x y", "1x", "x;", "<==", "=!", "00", "01", "1000000001", "99999999999999999999",
		"abcdefghijklm", "A", "aB", "_", "&", "-1", "\x00", "\xff", strings.Repeat("a", 3000), strings.Repeat("1", 3000), strings.Repeat(";", 3000),
	} {
		if kind, e := lex.Kind(text); kind != 0 || e != api.ErrForm {
			t.Errorf("Kind of %.40q: %d, %v", text, kind, e)
		}
	}
}

// TestKindOfShortTexts checks P1.2: a text is a token if Scan reads just this one, at its beginning and its end.
func TestKindOfShortTexts(t *testing.T) {
	for s := range shortTexts("aif01<=! \n%;&", 4) {
		l, bad := slowScan(s)
		kind, e := lex.Kind(s)
		if bad < 0 && len(l) == 1 && l[0].Text == s {
			if kind != l[0].Kind || e != api.OK {
				t.Fatalf("Kind of %q: %d, %v", s, kind, e)
			}
		} else if kind != 0 || e != api.ErrForm {
			t.Fatalf("Kind of %q: %d, %v", s, kind, e)
		}
	}
}

// TestJoin checks P1.3.
func TestJoin(t *testing.T) {
	for _, x := range []struct {
		l    []api.Lexeme
		want string
	}{
		{nil, ""},
		{[]api.Lexeme{}, ""},
		{[]api.Lexeme{name("a", 9), name("b", -3), sign("<", 9), sign("=", 9), number("1", 0), number("2", 0)}, "a b< =1 2"},
		{[]api.Lexeme{word("put", 0), name("x", 0), sign("{", 0), number("1", 0), sign("}", 0), sign(";", 0)}, "put x{1};"},
		{[]api.Lexeme{number("1", 0), name("a", 0), number("1", 0), word("if", 0), word("if", 0)}, "1a 1if if"},
		{[]api.Lexeme{number("0", 0), number("0", 0), name("abcdefghijkl", 0), name("m", 0)}, "0 0abcdefghijkl m"},
		{[]api.Lexeme{sign("<=", 0), sign("=", 0), sign("=", 0), sign("==", 0), sign("!", 0), sign("==", 0)}, "<== = ==! =="},
		{[]api.Lexeme{number("1000000000", 0), number("1", 0), sign("-", 0), sign("-", 0)}, "1000000000 1--"},
		{[]api.Lexeme{name("i", 0), name("f", 0)}, "i f"},
	} {
		if got, e := lex.Join(x.l); got != x.want || e != api.OK {
			t.Errorf("Join of %v: %q, %v", x.l, got, e)
		}
	}
}

// TestJoinErrors checks the limits and the errors of P1.3, and their order.
func TestJoinErrors(t *testing.T) {
	many := func(n int, l ...api.Lexeme) []api.Lexeme { return slices.Repeat(l, n) }
	// 250 times 9 bytes and a blank are 2499 bytes, as the last one has no blank behind it.
	long := many(250, name("abcdefghi", 0))
	for _, x := range []struct {
		what string
		l    []api.Lexeme
		e    api.Errno
	}{
		{"900 tokens", many(900, sign(";", 0)), api.OK},
		{"901 tokens", many(901, sign(";", 0)), api.ErrLimit},
		{"901 that are none", many(901, name("00", 0)), api.ErrLimit},
		{"2500 bytes", append(slices.Clone(long), sign(";", 0)), api.OK},
		{"2501 bytes", append(slices.Clone(long), sign(";", 0), sign(";", 0)), api.ErrLimit},
		{"too long with none behind it", append(many(900/2, name("abcdefghi", 0)), name("", 0)), api.ErrForm},
		{"no text", []api.Lexeme{{Kind: api.NameToken}}, api.ErrForm},
		{"a name that is a keyword", []api.Lexeme{name("task", 0)}, api.ErrForm},
		{"a keyword that is a name", []api.Lexeme{word("tasks", 0)}, api.ErrForm},
		{"a sign that is a number", []api.Lexeme{sign(";", 0), sign("1", 0)}, api.ErrForm},
		{"no kind", []api.Lexeme{{Text: "x"}}, api.ErrForm},
		{"another kind", []api.Lexeme{{Kind: 5, Text: "x"}}, api.ErrForm},
		{"a blank", []api.Lexeme{name("x ", 0)}, api.ErrForm},
		{"two tokens", []api.Lexeme{number("1x", 0)}, api.ErrForm},
		{"a name that is too long", []api.Lexeme{name("abcdefghijklm", 0)}, api.ErrForm},
		{"a long text", []api.Lexeme{name(strings.Repeat("a", 2501), 0)}, api.ErrForm},
	} {
		s, e := lex.Join(x.l)
		if e != x.e || e != api.OK && s != "" {
			t.Errorf("Join of %s: %.40q, %v", x.what, s, e)
		}
	}
	if s, e := lex.Join(append(slices.Clone(long), sign(";", 0))); len(s) != 2500 || e != api.OK {
		t.Errorf("Join to 2500 bytes: %d, %v", len(s), e)
	}
}
