package lex

import (
	"strconv"
	"strings"

	"dripstone/api"
)

// grammar is what tokens are read by: the keywords, and the signs, longer ones first.
type grammar struct {
	words map[string]bool
	signs []string
}

// newGrammar returns the keywords and signs of the language.
func newGrammar() grammar {
	g := grammar{words: map[string]bool{}, signs: api.Signs()}
	for _, word := range api.Keywords() {
		g.words[word] = true
	}
	return g
}

// token returns the token that begins at a place of a text, and whether there is one.
func (g grammar) token(s string, at int) (api.Lexeme, bool) {
	if at >= len(s) {
		return api.Lexeme{}, false
	}
	switch classOf(s[at]) {
	case letterByte:
		return g.word(s[at:past(s, at, letterByte, digitByte)], at)
	case digitByte:
		return number(s[at:past(s, at, digitByte)], at)
	}
	return g.sign(s, at)
}

// word returns the keyword or the name with a text.
func (g grammar) word(text string, at int) (api.Lexeme, bool) {
	if g.words[text] {
		return api.Lexeme{Kind: api.WordToken, Text: text, At: at}, true
	}
	if len(text) > api.MaxName {
		return api.Lexeme{}, false
	}
	return api.Lexeme{Kind: api.NameToken, Text: text, At: at}, true
}

// number returns the number whose digits a text is.
func number(text string, at int) (api.Lexeme, bool) {
	n, err := strconv.Atoi(text)
	if err != nil || n > api.MaxNumber || text[0] == '0' && text != "0" {
		return api.Lexeme{}, false
	}
	return api.Lexeme{Kind: api.NumberToken, Text: text, At: at}, true
}

// sign returns the longest sign that stands at a place.
func (g grammar) sign(s string, at int) (api.Lexeme, bool) {
	for _, text := range g.signs {
		if strings.HasPrefix(s[at:], text) {
			return api.Lexeme{Kind: api.SignToken, Text: text, At: at}, true
		}
	}
	return api.Lexeme{}, false
}

// kind returns the kind of the token that a text is, and whether it is one.
func (g grammar) kind(text string) (uint8, bool) {
	t, ok := g.token(text, 0)
	if !ok || t.Text != text {
		return 0, false
	}
	return t.Kind, true
}

// parts says whether a token is still read as it is if the text of another one follows without a blank.
func (g grammar) parts(first, second string) bool {
	t, ok := g.token(first+second, 0)
	return ok && t.Text == first
}
