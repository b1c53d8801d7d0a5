package order

import (
	"strings"

	"dripstone/api"
)

// Text returns the text of a table.
func Text(t api.Table) (string, api.Errno) {
	if !formed(t) {
		return "", api.ErrForm
	}
	var elems []string
	for a := range len(t.Elems) {
		elems = append(elems, elemText(t, a))
	}
	return "lattice " + t.Name + " { " + strings.Join(elems, "; ") + " }", api.OK
}

// elemText returns the text of an element of a table.
func elemText(t api.Table, a int) string {
	out := t.Elems[a]
	if t.Wrong[a] {
		out += "!"
	}
	between := ": "
	for _, b := range t.Above[a] {
		out += between + t.Elems[b]
		between = ", "
	}
	return out
}

// Parse returns the table with a text.
func Parse(s string) (api.Table, api.Errno) {
	r := reader{rest: s}
	t := r.table()
	if !r.ended() || !formed(t) {
		return api.Table{}, api.ErrForm
	}
	return t, api.OK
}

// table reads a table, of which it does not say whether it has its form.
func (r *reader) table() api.Table {
	var t api.Table
	var above [][]string
	r.read("lattice ")
	t.Name = r.word()
	r.read(" { ")
	for more := true; more; more = r.skip("; ") {
		t.Elems = append(t.Elems, r.word())
		t.Wrong = append(t.Wrong, r.skip("!"))
		above = append(above, r.above())
	}
	r.read(" }")
	// An element may be named before the table comes to it.
	numbers := map[string]int{}
	for a := range len(t.Elems) {
		numbers[t.Elems[a]] = a
	}
	for _, names := range above {
		t.Above = append(t.Above, r.numbered(names, numbers))
	}
	return t
}

// above reads the names of elements that stand above one.
func (r *reader) above() []string {
	var out []string
	for more := r.skip(": "); more; more = r.skip(", ") {
		out = append(out, r.word())
	}
	return out
}

// numbered returns the numbers of names, all of which must have one.
func (r *reader) numbered(names []string, numbers map[string]int) []int {
	var out []int
	for _, name := range names {
		n, ok := numbers[name]
		if !ok {
			r.lost = true
		}
		out = append(out, n)
	}
	return out
}
