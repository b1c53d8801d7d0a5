package lex

// every says whether something holds of all elements of a list.
func every[T any](l []T, holds func(T) bool) bool {
	for _, x := range l {
		if !holds(x) {
			return false
		}
	}
	return true
}

// run returns how many of the numbers from 0 on, below n, come before the first one of which something does not hold.
func run(n int, holds func(int) bool) int {
	for i := range n {
		if !holds(i) {
			return i
		}
	}
	return n
}
