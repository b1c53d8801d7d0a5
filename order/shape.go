package order

import (
	"slices"
	"strings"

	"dripstone/api"
)

// shapeWords are the words of shapes, by their kinds; the shape of a table has none.
var shapeWords = [...]string{
	api.ShapeFlag: "flag",
	api.ShapeMax:  "max",
	api.ShapeSet:  "set",
	api.ShapeOnce: "once",
	api.ShapeMap:  "map",
	api.ShapePair: "pair",
}

// words returns the kinds of the shapes that have a word, by their words.
func words() map[string]uint8 {
	out := map[string]uint8{}
	for kind, word := range shapeWords {
		if word != "" {
			out[word] = uint8(kind)
		}
	}
	return out
}

// kidCount returns how many kids the shapes of a kind have.
func kidCount(kind uint8) int {
	switch kind {
	case api.ShapeMap:
		return 1
	case api.ShapePair:
		return 2
	}
	return 0
}

// deeper says whether a shape has more levels than some. It goes no deeper than it must: a shape can have itself as a kid, by a list that is in itself.
func deeper(s api.Shape, levels int) bool {
	return levels == 0 || slices.ContainsFunc(s.Kids, func(kid api.Shape) bool {
		return deeper(kid, levels-1)
	})
}

// formedShape says whether a shape has its form.
func formedShape(s api.Shape) bool {
	if s.Kind < api.ShapeFlag || s.Kind > api.ShapePair || len(s.Kids) != kidCount(s.Kind) {
		return false
	}
	if s.Kind == api.ShapeNamed {
		return namesTable(s.Name)
	}
	return s.Name == "" && every(s.Kids, formedShape)
}

// CheckShape returns the error of a shape, and of the tables that it may name.
func CheckShape(l []api.Table, s api.Shape) api.Errno {
	if len(l) > api.MaxTables || deeper(s, api.MaxLevels) {
		return api.ErrLimit
	}
	if !every(l, formed) || !formedShape(s) {
		return api.ErrForm
	}
	var names []string
	for _, t := range l {
		names = append(names, t.Name)
	}
	if !distinct(names) {
		return api.ErrTwice
	}
	if !every(l, func(t api.Table) bool { return walk(t).firstBreak().Kind == 0 }) {
		return api.ErrFalse
	}
	if !namesOnly(s, names) {
		return api.ErrNone
	}
	return api.OK
}

// namesOnly says whether all tables that a shape, or a shape in it, names are among some.
func namesOnly(s api.Shape, names []string) bool {
	if s.Kind == api.ShapeNamed {
		return slices.Contains(names, s.Name)
	}
	return every(s.Kids, func(kid api.Shape) bool { return namesOnly(kid, names) })
}

// ShapeText returns the text of a shape.
func ShapeText(s api.Shape) (string, api.Errno) {
	if deeper(s, api.MaxLevels) {
		return "", api.ErrLimit
	}
	if !formedShape(s) {
		return "", api.ErrForm
	}
	return shapeText(s), api.OK
}

// shapeText returns the text of a shape that has its form.
func shapeText(s api.Shape) string {
	if s.Kind == api.ShapeNamed {
		return s.Name
	}
	if len(s.Kids) == 0 {
		return shapeWords[s.Kind]
	}
	var kids []string
	for _, kid := range s.Kids {
		kids = append(kids, shapeText(kid))
	}
	return shapeWords[s.Kind] + "(" + strings.Join(kids, ", ") + ")"
}

// ParseShape returns the shape with a text.
func ParseShape(s string) (api.Shape, api.Errno) {
	r := reader{rest: s}
	out := r.shape(words())
	if !r.ended() || !formedShape(out) {
		return api.Shape{}, api.ErrForm
	}
	if deeper(out, api.MaxLevels) {
		return api.Shape{}, api.ErrLimit
	}
	return out, api.OK
}

// shape reads a shape, of which it does not say whether it has its form, with the kinds of all words.
func (r *reader) shape(kinds map[string]uint8) api.Shape {
	word := r.word()
	kind, ok := kinds[word]
	if !ok {
		return api.Shape{Kind: api.ShapeNamed, Name: word}
	}
	out := api.Shape{Kind: kind}
	before := "("
	for range kidCount(kind) {
		r.read(before)
		out.Kids = append(out.Kids, r.shape(kinds))
		before = ", "
	}
	if len(out.Kids) > 0 {
		r.read(")")
	}
	return out
}
