// Package lex reads texts into tokens, says where something stands, and what edits do to texts and to their tokens. It is layer 1: see shared/doc/01-lex.md.
package lex

import (
	"strings"

	"dripstone/api"
)

// Scan returns the tokens of a text. Its int is the place of an error.
func Scan(s string) ([]api.Lexeme, int, api.Errno) {
	if at, e := textError(s); e != api.OK {
		return nil, at, e
	}
	g := newGrammar()
	plain := blanked(s)
	var out []api.Lexeme
	for at := past(plain, 0, gapByte); at < len(plain); {
		t, ok := g.token(plain, at)
		if !ok {
			return nil, at, api.ErrForm
		}
		if len(out) == api.MaxTokens {
			return nil, at, api.ErrLimit
		}
		out = append(out, t)
		at = past(plain, at+len(t.Text), gapByte)
	}
	return out, 0, api.OK
}

// Kind returns the kind of the token that a text is.
func Kind(text string) (uint8, api.Errno) {
	kind, ok := newGrammar().kind(text)
	if !ok {
		return 0, api.ErrForm
	}
	return kind, api.OK
}

// Join returns the bare text of tokens.
func Join(l []api.Lexeme) (string, api.Errno) {
	if len(l) > api.MaxTokens {
		return "", api.ErrLimit
	}
	g := newGrammar()
	right := every(l, func(t api.Lexeme) bool {
		kind, ok := g.kind(t.Text)
		return ok && kind == t.Kind
	})
	if !right {
		return "", api.ErrForm
	}
	var out strings.Builder
	for i, t := range l {
		if i > 0 && !g.parts(l[i-1].Text, t.Text) {
			out.WriteByte(' ')
		}
		out.WriteString(t.Text)
	}
	if out.Len() > api.MaxText {
		return "", api.ErrLimit
	}
	return out.String(), api.OK
}
