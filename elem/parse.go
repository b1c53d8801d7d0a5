package elem

import (
	"slices"
	"strconv"
	"strings"

	"dripstone/api"
)

// Bytes of integers and of names.
const (
	integerBytes = "-0123456789"
	nameBytes    = "abcdefghijklmnopqrstuvwxyz0123456789"
)

// parse reads the text of an element, of which it does not say whether the lattice holds it.
func (r *reader) parse() api.Elem {
	out := api.Elem{Kind: r.begin()}
	if !r.hasKind(out.Kind) {
		return r.none()
	}
	switch out.Kind {
	case api.ElemInt:
		out.N = r.integer()
	case api.ElemName:
		out.N = slices.Index(r.table().Elems, r.run(nameBytes))
	case api.ElemSet, api.ElemMap, api.ElemPair:
		for more := true; more; more = r.skip(between) {
			r.part(&out)
		}
		r.need(ends[out.Kind])
	}
	return out
}

// part reads a key of a set, a key of a map with its kid, or a kid of a pair.
func (r *reader) part(e *api.Elem) {
	if e.Kind != api.ElemPair {
		e.Keys = append(e.Keys, r.integer())
	}
	if e.Kind == api.ElemMap {
		r.need(colon)
	}
	if e.Kind != api.ElemSet {
		r.kidOf(e, r.parse)
	}
}

// begin reads with what an element begins, and returns its kind.
func (r *reader) begin() uint8 {
	for kind, text := range begins {
		if kind != int(api.ElemInt) && r.skip(text) {
			return uint8(kind)
		}
	}
	return api.ElemInt
}

// skip reads a text if it stands next, and says whether it does.
func (r *reader) skip(text string) bool {
	rest, ok := strings.CutPrefix(r.rest, text)
	r.rest = rest
	return ok
}

// need reads a text that must stand next.
func (r *reader) need(text string) {
	if !r.skip(text) {
		r.lost = true
	}
}

// run reads all bytes that stand next and are among some.
func (r *reader) run(some string) string {
	rest := strings.TrimLeft(r.rest, some)
	out := r.rest[:len(r.rest)-len(rest)]
	r.rest = rest
	return out
}

// integer reads an integer, which has just one text.
func (r *reader) integer() int {
	text := r.run(integerBytes)
	n, err := strconv.Atoi(text)
	if err != nil || strconv.Itoa(n) != text {
		r.lost = true
		return 0
	}
	return n
}
