package elem

import (
	"strconv"
	"strings"

	"dripstone/api"
)

// begins are the bytes with which the texts of elements begin, by their kinds; that of an integer begins with itself.
var begins = [...]string{
	api.ElemNone:  "none",
	api.ElemOn:    "on",
	api.ElemInt:   "",
	api.ElemClash: "clash",
	api.ElemName:  "#",
	api.ElemSet:   "{",
	api.ElemMap:   "[",
	api.ElemPair:  "(",
}

// ends are the bytes with which they end.
var ends = [...]string{
	api.ElemSet:  "}",
	api.ElemMap:  "]",
	api.ElemPair: ")",
}

// Texts that stand between the parts of an element, and between a key and its kid.
const (
	between = ", "
	colon   = ": "
)

// text returns the text of an element.
func (r right) text(e api.Elem) string {
	switch e.Kind {
	case api.ElemInt:
		return strconv.Itoa(e.N)
	case api.ElemName:
		return begins[e.Kind] + r.table().Elems[e.N]
	case api.ElemSet, api.ElemMap, api.ElemPair:
		return begins[e.Kind] + strings.Join(r.partTexts(e), between) + ends[e.Kind]
	}
	return begins[e.Kind]
}

// partTexts returns the texts of the keys of an element, of its kids, or of both together.
func (r right) partTexts(e api.Elem) []string {
	out := make([]string, max(len(e.Keys), len(e.Kids)))
	for i, key := range e.Keys {
		out[i] = strconv.Itoa(key)
	}
	for i, kid := range e.Kids {
		if e.Kind == api.ElemMap {
			out[i] += colon
		}
		out[i] += r.kid(i).text(kid)
	}
	return out
}
