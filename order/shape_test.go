package order_test

import (
	"slices"
	"strings"
	"testing"

	"dripstone/api"
	"dripstone/order"
)

// leaf returns a shape without kids.
func leaf(kind uint8) api.Shape {
	return api.Shape{Kind: kind}
}

// named returns the shape of a table.
func named(name string) api.Shape {
	return api.Shape{Kind: api.ShapeNamed, Name: name}
}

// mapOf and pairOf return shapes with kids.
func mapOf(kids ...api.Shape) api.Shape {
	return api.Shape{Kind: api.ShapeMap, Kids: kids}
}

func pairOf(kids ...api.Shape) api.Shape {
	return api.Shape{Kind: api.ShapePair, Kids: kids}
}

// nest returns a shape in so many maps, or as the last one of so many pairs.
func nest(s api.Shape, maps, pairs int) api.Shape {
	for range maps {
		s = mapOf(s)
	}
	for range pairs {
		s = pairOf(leaf(api.ShapeFlag), s)
	}
	return s
}

// endless returns a shape that has itself as a kid.
func endless(kind uint8, kids int) api.Shape {
	l := make([]api.Shape, kids)
	for i := range l {
		l[i] = api.Shape{Kind: kind, Kids: l}
	}
	return l[0]
}

// allShapes returns all shapes with at most some levels, with two tables.
func allShapes(levels int) []api.Shape {
	if levels == 0 {
		return nil
	}
	out := []api.Shape{leaf(api.ShapeFlag), leaf(api.ShapeMax), leaf(api.ShapeSet), leaf(api.ShapeOnce), named("l"), named("nobody")}
	kids := allShapes(levels - 1)
	for _, a := range kids {
		out = append(out, mapOf(a))
		for _, b := range kids {
			out = append(out, pairOf(a, b))
		}
	}
	return out
}

// flawedShapes returns shapes of few levels that have not their form.
func flawedShapes() []api.Shape {
	out := []api.Shape{
		leaf(0), leaf(8), leaf(255), leaf(api.ShapeNamed), leaf(api.ShapeMap), leaf(api.ShapePair),
		mapOf(leaf(api.ShapeFlag), leaf(api.ShapeFlag)), pairOf(leaf(api.ShapeFlag)), pairOf(leaf(api.ShapeFlag), leaf(api.ShapeFlag), leaf(api.ShapeFlag)),
		{Kind: api.ShapeNamed, Name: "l", Kids: []api.Shape{leaf(api.ShapeFlag)}}, {Name: "l"}, {Kind: 8, Name: "l"},
	}
	for _, name := range []string{"flag", "max", "set", "once", "map", "pair", "A", "aB", "1", "l ", "map(flag)", "abcdefghijklm", "é", "a\xff"} {
		out = append(out, named(name))
	}
	for kind := api.ShapeFlag; kind <= api.ShapeOnce; kind++ {
		out = append(out, api.Shape{Kind: kind, Name: "l"}, api.Shape{Kind: kind, Kids: []api.Shape{leaf(api.ShapeFlag)}})
	}
	out = append(out, api.Shape{Kind: api.ShapeMap, Name: "l", Kids: []api.Shape{leaf(api.ShapeFlag)}}, api.Shape{Kind: api.ShapePair, Name: "l", Kids: []api.Shape{leaf(api.ShapeFlag), leaf(api.ShapeFlag)}})
	for _, s := range slices.Clone(out) {
		out = append(out, mapOf(s), pairOf(s, leaf(api.ShapeFlag)), pairOf(leaf(api.ShapeFlag), s), mapOf(mapOf(s)))
	}
	return out
}

// P3.7: errors of CheckShape, and their order.
func TestCheckShape(t *testing.T) {
	flag, nobody, flawed := leaf(api.ShapeFlag), named("nobody"), leaf(api.ShapeNamed)
	l, c, bad := mustRead(t, diamondText), mustRead(t, chainText), mustRead(t, noneText)
	formless := copyTable(l)
	formless.Wrong = nil
	eight := make([]api.Table, 8)
	for i, name := range []string{"a", "b", "c", "d", "e", "f", "g", "h"} {
		eight[i] = copyTable(l)
		eight[i].Name = name
	}
	nine := append(slices.Clone(eight), l)
	for i, x := range []struct {
		l []api.Table
		s api.Shape
		e api.Errno
	}{
		{nil, flag, api.OK}, {[]api.Table{}, flag, api.OK}, {eight, named("h"), api.OK}, {eight, named("a"), api.OK}, {[]api.Table{l, c}, pairOf(named("c"), mapOf(named("l"))), api.OK},
		{nine, flag, api.ErrLimit}, {nine, flawed, api.ErrLimit}, {make([]api.Table, 9), nobody, api.ErrLimit},
		{nil, nest(flag, 3, 0), api.OK}, {nil, nest(flag, 0, 3), api.OK}, {nil, nest(flag, 4, 0), api.ErrLimit}, {nil, nest(flag, 0, 4), api.ErrLimit}, {nil, pairOf(nest(flag, 3, 0), flag), api.ErrLimit}, {nil, nest(flag, 1000, 0), api.ErrLimit},
		{[]api.Table{formless}, nest(flag, 4, 0), api.ErrLimit}, {nil, nest(flawed, 2, 2), api.ErrLimit}, {nil, api.Shape{Kids: []api.Shape{nest(flag, 3, 0)}}, api.ErrLimit},
		{nil, endless(api.ShapeMap, 1), api.ErrLimit}, {nil, endless(api.ShapePair, 2), api.ErrLimit}, {nil, endless(0, 100), api.ErrLimit},
		{[]api.Table{formless}, flag, api.ErrForm}, {[]api.Table{l, formless}, flag, api.ErrForm}, {[]api.Table{l, l, formless}, flag, api.ErrForm}, {[]api.Table{l, bad, formless}, flag, api.ErrForm}, {[]api.Table{l, l, bad}, flawed, api.ErrForm}, {make([]api.Table, 8), nobody, api.ErrForm},
		{[]api.Table{l, l}, flag, api.ErrTwice}, {[]api.Table{l, c, l}, flag, api.ErrTwice}, {[]api.Table{bad, l, l}, nobody, api.ErrTwice}, {[]api.Table{bad, bad}, flag, api.ErrTwice},
		{[]api.Table{bad}, flag, api.ErrFalse}, {[]api.Table{l, bad}, flag, api.ErrFalse}, {[]api.Table{bad, l}, nobody, api.ErrFalse},
		{nil, nobody, api.ErrNone}, {[]api.Table{l, c}, nobody, api.ErrNone}, {[]api.Table{l}, mapOf(nobody), api.ErrNone}, {[]api.Table{l}, pairOf(named("l"), nobody), api.ErrNone}, {[]api.Table{l}, pairOf(nobody, named("l")), api.ErrNone}, {[]api.Table{l}, nest(nobody, 1, 2), api.ErrNone},
	} {
		if e := order.CheckShape(x.l, x.s); e != x.e {
			t.Errorf("CheckShape %d: %v, and not %v", i, e, x.e)
		}
	}
	for _, x := range flawedTables() {
		if e := order.CheckShape([]api.Table{l, x.Table}, flag); e != api.ErrForm {
			t.Errorf("CheckShape, %q: %v", x.why, e)
		}
	}
	for _, s := range flawedShapes() {
		if e := order.CheckShape([]api.Table{l}, s); e != api.ErrForm {
			t.Errorf("CheckShape of %v: %v", s, e)
		}
	}
	for _, s := range []string{cycleText, baseText, noneText, manyText, wrongText} {
		if e := order.CheckShape([]api.Table{mustRead(t, s)}, flag); e != api.ErrFalse {
			t.Errorf("CheckShape with %s: %v", s, e)
		}
	}
}

// P3.7, P3.8: all shapes with few levels.
func TestAllShapes(t *testing.T) {
	l := []api.Table{mustRead(t, chainText), mustRead(t, diamondText)}
	for _, s := range allShapes(3) {
		text, e := order.ShapeText(s)
		if e != api.OK {
			t.Fatalf("ShapeText of %v: %v", s, e)
		}
		if again, e := order.ParseShape(text); !sameShape(again, s) || e != api.OK {
			t.Fatalf("ParseShape of %q: %v, %v", text, again, e)
		}
		want := api.OK
		if strings.Contains(text, "nobody") {
			want = api.ErrNone
		}
		if e := order.CheckShape(l, s); e != want {
			t.Fatalf("CheckShape of %s: %v", text, e)
		}
	}
}

// P3.8: texts of shapes by hand, and back.
func TestShapeTexts(t *testing.T) {
	flag := leaf(api.ShapeFlag)
	for s, x := range map[string]api.Shape{
		"flag": flag, "max": leaf(api.ShapeMax), "set": leaf(api.ShapeSet), "once": leaf(api.ShapeOnce), "l": named("l"), "a2345678901z": named("a2345678901z"), "maps": named("maps"), "flag1": named("flag1"), "mapmap": named("mapmap"), "fla": named("fla"), "lattice": named("lattice"),
		"map(pair(flag, l))":                    mapOf(pairOf(flag, named("l"))),
		"pair(once, map(set))":                  pairOf(leaf(api.ShapeOnce), mapOf(leaf(api.ShapeSet))),
		"map(map(map(max)))":                    nest(leaf(api.ShapeMax), 3, 0),
		"pair(flag, pair(flag, pair(flag, x)))": nest(named("x"), 0, 3),
	} {
		if text, e := order.ShapeText(x); text != s || e != api.OK {
			t.Errorf("ShapeText of %v: %q, %v", x, text, e)
		}
		if y, e := order.ParseShape(s); !sameShape(x, y) || e != api.OK {
			t.Errorf("ParseShape of %q: %v, %v", s, y, e)
		}
	}
}

// P3.8: errors of ShapeText, and their order.
func TestShapeTextErrors(t *testing.T) {
	flag := leaf(api.ShapeFlag)
	for _, s := range flawedShapes() {
		if text, e := order.ShapeText(s); text != "" || e != api.ErrForm {
			t.Errorf("ShapeText of %v: %q, %v", s, text, e)
		}
	}
	for i, s := range []api.Shape{nest(flag, 4, 0), nest(flag, 0, 4), nest(leaf(0), 4, 0), nest(named("A"), 2, 2), pairOf(flag, flag, nest(flag, 0, 3)), nest(flag, 5000, 5000), endless(api.ShapeMap, 1), endless(api.ShapePair, 2), endless(77, 50)} {
		if text, e := order.ShapeText(s); text != "" || e != api.ErrLimit {
			t.Errorf("ShapeText %d: %q, %v", i, text, e)
		}
	}
}

// P3.8: errors of ParseShape, and their order.
func TestParseShapeErrors(t *testing.T) {
	deep := func(n int, s string) string { return strings.Repeat("map(", n) + s + strings.Repeat(")", n) }
	for _, s := range []string{
		"", " ", "(", ")", "()", "map", "map(", "map()", "map)", "map(flag", "map(flag))", "map (flag)", "map( flag)", "map(flag )", "map(flag, flag)", "map(,)", "(flag)", "flag(", "flag()", "flag(flag)", "l(flag)", "l()",
		"pair", "pair()", "pair(flag)", "pair(flag,flag)", "pair(flag , flag)", "pair(flag,  flag)", "pair(flag, flag", "pair(flag, flag, flag)", "pair(, flag)", "pair(flag, )", "pair(flag)(flag)", "pair(flag, flag))",
		"Flag", "flag ", " flag", "FLAG", "1", "1a", "aB", "a_b", "a b", "abcdefghijklm", "é", "lé", "l\x00", "l\xff", "flag, flag", "map(flag)\n", "int",
		deep(4, "A"), deep(4, ""), deep(4, "flag") + " ", deep(4, "flag") + ")", strings.Repeat("map(", 70000), deep(70000, "map"), deep(5, "pair(flag,flag)"), deep(9, "abcdefghijklm"), strings.Repeat("pair(flag, ", 70000) + "flag",
	} {
		want := api.ErrForm
		if s == "int" { // a word of programs, but no word of shapes: a table may have this name
			want = api.OK
		}
		if x, e := order.ParseShape(s); e != want || e != api.OK && !sameShape(x, api.Shape{}) {
			t.Errorf("ParseShape of %.60q: %v", s, e)
		}
	}
	for _, s := range []string{deep(4, "flag"), deep(4, "l"), deep(3, "pair(flag, set)"), "pair(flag, map(map(map(flag))))", "pair(map(map(map(flag))), flag)", deep(60000, "flag"), strings.Repeat("pair(flag, ", 60000) + "flag" + strings.Repeat(")", 60000)} {
		if x, e := order.ParseShape(s); !sameShape(x, api.Shape{}) || e != api.ErrLimit {
			t.Errorf("ParseShape of %.60q: %v", s, e)
		}
	}
}

// P3.8: a text that is nearly that of a shape is read just if it is that of the shape it is read as.
func TestNearlyShapes(t *testing.T) {
	for _, s := range []string{"flag", "l", "map(set)", "map(pair(flag, l))", "pair(once, map(max))", "map(map(map(max)))", "pair(pair(a, b), pair(c, pair(d, e)))"} {
		for u := range changed(s, "aflmp09A(), \n\xff") {
			x, e := order.ParseShape(u)
			if e == api.ErrForm && sameShape(x, api.Shape{}) {
				continue
			}
			if again, f := order.ShapeText(x); again != u || e != api.OK || f != api.OK {
				t.Fatalf("ParseShape of %q: %v, %v, with the text %q, %v", u, x, e, again, f)
			}
		}
	}
}
