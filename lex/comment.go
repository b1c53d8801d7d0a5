package lex

import (
	"iter"
	"strings"

	"dripstone/api"
)

// comments yields where the comments of a text are, ascending.
func comments(s string) iter.Seq[api.Stretch] {
	return func(yield func(api.Stretch) bool) {
		begin := 0
		for line := range strings.SplitSeq(s, "\n") {
			end := begin + len(line)
			if n := strings.IndexByte(line, '%'); n >= 0 && !yield(api.Stretch{From: begin + n, To: end}) {
				return
			}
			begin = end + 1
		}
	}
}

// blanked returns a text with blanks for its comments, so that all places stay.
func blanked(s string) string {
	b := []byte(s)
	for c := range comments(s) {
		for i := range c.To - c.From {
			b[c.From+i] = ' '
		}
	}
	return string(b)
}

// Comments returns where the comments of a text are, ascending. Its int is the place of an error.
func Comments(s string) ([]api.Stretch, int, api.Errno) {
	if at, e := textError(s); e != api.OK {
		return nil, at, e
	}
	var out []api.Stretch
	for c := range comments(s) {
		out = append(out, c)
	}
	return out, 0, api.OK
}

// Blank returns a text in which each byte of a comment is a blank. Its int is the place of an error.
func Blank(s string) (string, int, api.Errno) {
	if at, e := textError(s); e != api.OK {
		return "", at, e
	}
	return blanked(s), 0, api.OK
}
