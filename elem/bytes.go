package elem

import "dripstone/api"

// Of each byte of a count the lower bits count; the highest one says that there are more bytes.
const (
	countBits = 7
	moreBytes = 1 << countBits
)

// appendElem appends the bytes of an element.
func appendElem(b []byte, e api.Elem) []byte {
	b = append(b, e.Kind)
	switch e.Kind {
	case api.ElemInt:
		b = appendNumber(b, e.N)
	case api.ElemName:
		b = appendCount(b, e.N)
	case api.ElemSet, api.ElemMap:
		b = appendCount(b, len(e.Keys))
	}
	for i := range max(len(e.Keys), len(e.Kids)) {
		if i < len(e.Keys) {
			b = appendNumber(b, e.Keys[i])
		}
		if i < len(e.Kids) {
			b = appendElem(b, e.Kids[i])
		}
	}
	return b
}

// appendCount appends a count.
func appendCount(b []byte, n int) []byte {
	for n >= moreBytes {
		b = append(b, byte(n%moreBytes+moreBytes))
		n /= moreBytes
	}
	return append(b, byte(n))
}

// appendNumber appends a number.
func appendNumber(b []byte, n int) []byte {
	if n < 0 {
		return appendCount(b, -2*n-1)
	}
	return appendCount(b, 2*n)
}
