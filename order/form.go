package order

import (
	"slices"

	"dripstone/api"
)

// every says whether something holds of all elements of a list.
func every[T any](l []T, holds func(T) bool) bool {
	for _, x := range l {
		if !holds(x) {
			return false
		}
	}
	return true
}

// formed says whether a table has its form.
func formed(t api.Table) bool {
	n := len(t.Elems)
	if n < 1 || n > api.MaxElems || len(t.Above) != n || len(t.Wrong) != n {
		return false
	}
	return namesTable(t.Name) && every(t.Elems, isName) && distinct(t.Elems) &&
		every(t.Above, func(above []int) bool { return ascends(above, n) })
}

// ascends says whether a list is strictly ascending, of numbers from 0 on, below n.
func ascends(l []int, n int) bool {
	last := -1
	return every(l, func(x int) bool {
		up := x > last && x < n
		last = x
		return up
	})
}

// distinct says whether texts are different.
func distinct(l []string) bool {
	for i, s := range l {
		if slices.Contains(l[:i], s) {
			return false
		}
	}
	return true
}

// namesTable says whether a text can be the name of a table.
func namesTable(s string) bool {
	for _, word := range shapeWords {
		if s == word {
			return false
		}
	}
	return isName(s)
}

// isName says whether a text is a name.
func isName(s string) bool {
	if len(s) < 1 || len(s) > api.MaxName {
		return false
	}
	return isLetter(rune(s[0])) && wordEnd(s) == len(s)
}

// wordEnd returns where the word ends with which a text begins: at a rune that is none of a name.
func wordEnd(s string) int {
	for at, c := range s {
		if !isLetter(c) && !isDigit(c) {
			return at
		}
	}
	return len(s)
}

// isLetter says whether a rune is a letter of names.
func isLetter(c rune) bool {
	return 'a' <= c && c <= 'z'
}

// isDigit says whether a rune is a digit.
func isDigit(c rune) bool {
	return '0' <= c && c <= '9'
}
