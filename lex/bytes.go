package lex

import (
	"slices"

	"dripstone/api"
)

// class says what a byte can be part of.
type class uint8

const (
	wrongByte class = iota
	gapByte
	letterByte
	digitByte
	otherByte
)

// classOf returns the class of a byte.
func classOf(b byte) class {
	switch {
	case b == ' ' || b == '\n':
		return gapByte
	case 'a' <= b && b <= 'z':
		return letterByte
	case '0' <= b && b <= '9':
		return digitByte
	case ' ' < b && b <= '~':
		return otherByte
	}
	return wrongByte
}

// past returns the first place of a text, from a place on, at which no byte of these classes stands.
func past(s string, at int, classes ...class) int {
	for at < len(s) && slices.Contains(classes, classOf(s[at])) {
		at++
	}
	return at
}

// textError returns the error of a text, with its place.
func textError(s string) (int, api.Errno) {
	if len(s) > api.MaxText {
		return 0, api.ErrLimit
	}
	for at := range len(s) {
		if classOf(s[at]) == wrongByte {
			return at, api.ErrForm
		}
	}
	return 0, api.OK
}
