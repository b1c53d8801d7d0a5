package lex

import (
	"strings"

	"dripstone/api"
)

// Where returns the line and the column of a place of a text.
func Where(s string, at int) (api.Where, api.Errno) {
	if _, e := textError(s); e != api.OK {
		return api.Where{}, e
	}
	if at < 0 || at > len(s) {
		return api.Where{}, api.ErrRange
	}
	before := s[:at]
	begin := strings.LastIndexByte(before, '\n') + 1
	return api.Where{Line: strings.Count(before, "\n") + 1, Column: at - begin + 1}, api.OK
}

// At returns the place of a text with a line and a column.
func At(s string, w api.Where) (int, api.Errno) {
	if _, e := textError(s); e != api.OK {
		return 0, e
	}
	lines := strings.Split(s, "\n")
	if w.Line < 1 || w.Line > len(lines) {
		return 0, api.ErrRange
	}
	// The line feed that ends a line, or the end of the text, has a column of that line too.
	if w.Column < 1 || w.Column > len(lines[w.Line-1])+1 {
		return 0, api.ErrRange
	}
	at := w.Column - 1
	for _, line := range lines[:w.Line-1] {
		at += len(line) + 1
	}
	return at, api.OK
}
