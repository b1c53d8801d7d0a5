package lex_test

import (
	"iter"
	"slices"
	"testing"

	"dripstone/api"
	"dripstone/lex"
)

// word, name, number and sign are tokens at a place.
func word(text string, at int) api.Lexeme {
	return api.Lexeme{Kind: api.WordToken, Text: text, At: at}
}

func name(text string, at int) api.Lexeme {
	return api.Lexeme{Kind: api.NameToken, Text: text, At: at}
}

func number(text string, at int) api.Lexeme {
	return api.Lexeme{Kind: api.NumberToken, Text: text, At: at}
}

func sign(text string, at int) api.Lexeme {
	return api.Lexeme{Kind: api.SignToken, Text: text, At: at}
}

// shortTexts yields all texts of at most n bytes of an alphabet.
func shortTexts(alphabet string, n int) iter.Seq[string] {
	return func(yield func(string) bool) {
		var grow func(s string) bool
		grow = func(s string) bool {
			if !yield(s) {
				return false
			}
			for i := 0; len(s) < n && i < len(alphabet); i++ {
				if !grow(s + alphabet[i:i+1]) {
					return false
				}
			}
			return true
		}
		grow("")
	}
}

// edits yields all edits of a text that put one of some texts.
func edits(s string, puts ...string) iter.Seq[api.Edit] {
	return func(yield func(api.Edit) bool) {
		for from := range len(s) + 1 {
			for to := from; to <= len(s); to++ {
				for _, put := range puts {
					if !yield(api.Edit{From: from, To: to, Put: put}) {
						return
					}
				}
			}
		}
	}
}

// placeless returns tokens whose places are all 0.
func placeless(l []api.Lexeme) []api.Lexeme {
	out := slices.Clone(l)
	for i := range out {
		out[i].At = 0
	}
	return out
}

// mustScan returns the tokens of a text that has no error.
func mustScan(t *testing.T, s string) []api.Lexeme {
	t.Helper()
	l, at, e := lex.Scan(s)
	if at != 0 || e != api.OK {
		t.Fatalf("Scan of %q: %d, %v", s, at, e)
	}
	return l
}

// mustApply returns the text after an edit that has no error.
func mustApply(t *testing.T, s string, x api.Edit) string {
	t.Helper()
	out, e := lex.Apply(s, x)
	if e != api.OK {
		t.Fatalf("Apply of %q, %v: %v", s, x, e)
	}
	return out
}
