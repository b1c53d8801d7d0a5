package elem_test

import (
	"math/rand"
	"slices"
	"strconv"
	"strings"
	"testing"

	"dripstone/api"
	"dripstone/elem"
)

// plainText returns the text of an element.
func plainText(u api.Lattice, e api.Elem) string {
	var l []string
	switch e.Kind {
	case api.ElemNone:
		return "none"
	case api.ElemOn:
		return "on"
	case api.ElemClash:
		return "clash"
	case api.ElemInt:
		return strconv.Itoa(e.N)
	case api.ElemName:
		return "#" + namedTable(u).Elems[e.N]
	case api.ElemSet:
		for _, key := range e.Keys {
			l = append(l, strconv.Itoa(key))
		}
		return "{" + strings.Join(l, ", ") + "}"
	case api.ElemMap:
		for i, key := range e.Keys {
			l = append(l, strconv.Itoa(key)+": "+plainText(kidLattice(u, 0), e.Kids[i]))
		}
		return "[" + strings.Join(l, ", ") + "]"
	}
	return "(" + plainText(kidLattice(u, 0), e.Kids[0]) + ", " + plainText(kidLattice(u, 1), e.Kids[1]) + ")"
}

// P4.6: texts by hand, and back.
func TestTexts(t *testing.T) {
	for _, x := range []struct {
		shape, s string
		e        api.Elem
	}{
		{"flag", "none", none()}, {"flag", "on", on()}, {"max", "none", none()}, {"max", "0", whole(0)}, {"max", "-1000000000", whole(-1000000000)}, {"max", "1000000000", whole(1000000000)}, {"once", "7", whole(7)}, {"once", "clash", clash()}, {"l", "#b", name(1)}, {"l", "#d", name(3)}, {"c", "#mid2", name(2)}, {"cube", "#a", name(1)}, {"cube", "#abc", name(7)}, {"one", "none", none()},
		{"set", "none", none()}, {"set", "{0}", set(0)}, {"set", "{-12, 0, 3}", set(-12, 0, 3)},
		{"map(flag)", "[0: on]", mapOf([]int{0}, on())}, {"map(set)", "[-1: {2, 3}, 4: {5}]", mapOf([]int{-1, 4}, set(2, 3), set(5))}, {"map(map(once))", "[1: [2: clash]]", mapOf([]int{1}, mapOf([]int{2}, clash()))}, {"map(c)", "[5: #high]", mapOf([]int{5}, name(3))},
		{"pair(flag, max)", "(on, none)", pairOf(on(), none())}, {"pair(flag, max)", "(none, -7)", pairOf(none(), whole(-7))}, {"pair(l, pair(set, l))", "(#b, ({1, 2}, #c))", pairOf(name(1), pairOf(set(1, 2), name(2)))}, {"pair(l, pair(set, l))", "(#b, none)", pairOf(name(1), none())}, {"map(pair(map(flag), once))", "[3: ([4: on], 5), 6: (none, clash)]", mapOf([]int{3, 6}, pairOf(mapOf([]int{4}, on()), whole(5)), pairOf(none(), clash()))},
	} {
		u := latticeOf(t, x.shape)
		if s, e := elem.Text(u, x.e); s != x.s || e != api.OK {
			t.Errorf("Text, %s, of %v: %q, %v", x.shape, x.e, s, e)
		}
		if y, e := elem.Parse(u, x.s); !same(y, x.e) || e != api.OK {
			t.Errorf("Parse, %s, of %q: %v, %v", x.shape, x.s, y, e)
		}
	}
}

// P4.6: texts of no element, by hand.
func TestNoTexts(t *testing.T) {
	for shape, l := range map[string][]string{
		"flag":                  {"", " ", "On", "ON", "on ", " on", "onn", "o", "onon", "noneon", "none ", "nonee", "None", "clash", "0", "1", "#on", "{}", "true", "on\n", "on\x00", "é"},
		"max":                   {"", "07", "00", "-0", "-", "--1", "+1", "1 ", " 1", "1-", "1-2", "1.0", "1e3", "0x1", "1_0", "1000000001", "-1000000001", "9223372036854775807", "9223372036854775808", "-9223372036854775808", "99999999999999999999999", "clash", "on", "none0", "١"},
		"once":                  {"", "clash ", "Clash", "clash1", "1clash", "on", "-0", "01", "1000000001"},
		"l":                     {"", "#", "#a", "#x", "b", "# b", "#b ", "#B", "#bb", "#b#c", "#1", "1", "0", "#none", "#b!", "clash"},
		"c":                     {"#mid", "#mid20", "#2", "#none", "#mid 2"},
		"one":                   {"#a", "a", "#"},
		"set":                   {"", "{}", "{", "}", "{ }", "{1", "1}", "1", "{1}}", "{{1}}", "{2, 1}", "{1, 1}", "{1,2}", "{1 ,2}", "{1,  2}", "{1, 2 }", "{ 1}", "{1, }", "{, 1}", "{1, 2,}", "{01}", "{-0}", "{+1}", "{1000000001}", "{-1000000001, 0}", "{on}", "{none}", "{1: on}", "[1]", "(1)", "none}", "{1; 2}", "{1}, {2}"},
		"map(flag)":             {"", "[]", "[", "]", "[1]", "[1:]", "[1: ]", "[1:on]", "[1 : on]", "[1:  on]", "[1: on", "1: on]", "[1: on]]", "[1: none]", "[1: none, 2: on]", "[2: on, 1: on]", "[1: on, 1: on]", "[1: on,2: on]", "[1: on, ]", "[: on]", "[01: on]", "[1: 1]", "[1: on, 2]", "{1: on}", "[1000000001: on]", "[on: on]", "[1: [1: on]]"},
		"pair(flag, max)":       {"", "()", "(", ")", "(on)", "(on, )", "(, 1)", "(on,1)", "(on , 1)", "(on,  1)", "(on, 1", "on, 1)", "(on, 1))", "(on, 1, 2)", "(on, 1, none)", "(none, none)", "(1, on)", "(on, on)", "(1, 1)", "[on, 1]", "{on, 1}", "( on, 1)", "(on, 01)", "(on; 1)"},
		"map(pair(flag, flag))": {"[1: (none, none)]", "[1: (on)]", "[1: (on, on, on)]", "[1: none]", "[1: (on, none), 0: (on, none)]"},
		"pair(pair(l, l), set)": {"((none, none), none)", "((#b, none), {})", "((#b), {1})", "(#b, #b, {1})", "((#b, none, {1})", "((#b, none), {1}", "((#b, #a), none)"},
		"map(map(map(max)))":    {"[1: [1: [1: none]]]", "[1: [1: []]]", "[1: []]", "[1: [1: 1]]", "[1: [1: [1: [1: 1]]]]", strings.Repeat("[1: ", 600), strings.Repeat("(", 2500)},
	} {
		u := latticeOf(t, shape)
		for _, s := range l {
			if y, e := elem.Parse(u, s); !same(y, none()) || e != api.ErrForm {
				t.Errorf("Parse, %s, of %q: %v, %v", shape, s, y, e)
			}
		}
	}
}

// checkText checks that if a text is read it is the one of what is read, and returns whether it is.
func checkText(t *testing.T, u api.Lattice, s string) bool {
	t.Helper()
	x, e := elem.Parse(u, s)
	if e == api.OK && (!plainHolds(u, x) || plainText(u, x) != s) || e != api.OK && (e != api.ErrForm || !same(x, none())) {
		t.Fatalf("Parse, %v, of %q: %v, %v", u.Shape, s, x, e)
	}
	return e == api.OK
}

// countTexts checks all texts of at most so many tokens, and returns how many are those of elements.
func countTexts(t *testing.T, u api.Lattice, begin string, tokens []string, most int) int {
	t.Helper()
	n := 0
	if checkText(t, u, begin) {
		n++
	}
	if most > 0 {
		for _, s := range tokens {
			n += countTexts(t, u, begin+s, tokens, most-1)
		}
	}
	return n
}

// P4.6: all short texts of some tokens.
func TestShortTexts(t *testing.T) {
	all := []string{"none", "on", "clash", "#b", "#", "b", "{", "}", "[", "]", "(", ")", ", ", ",", ": ", " ", "1", "-", "0"}
	for _, x := range []struct {
		shape  string
		tokens []string
		most   int
		want   int // how many texts are those of elements
	}{
		{"flag", all, 3, 2}, {"max", all, 3, 12}, {"once", all, 3, 13}, {"l", all, 3, 3}, {"c", all, 3, 1}, {"set", all, 3, 3}, {"map(flag)", all, 3, 1}, {"pair(flag, l)", all, 3, 1},
		{"set", []string{"{", "}", ", ", "1", "-", "0"}, 6, 30}, {"map(flag)", []string{"[", "]", ": ", ", ", "on", "none", "1", "2"}, 5, 3}, {"map(flag)", []string{"[1: on", ", 2: on", ", ", "]", ": on", "3"}, 6, 5},
		{"pair(flag, l)", []string{"(", ")", ", ", "on", "#b", "none"}, 6, 4}, {"map(map(flag))", []string{"[1: ", "[2: ", "on", "]", ", 3: ", "none"}, 6, 5},
	} {
		if n := countTexts(t, latticeOf(t, x.shape), "", x.tokens, x.most); n != x.want {
			t.Errorf("%s: %d texts of %q are those of elements, and not %d", x.shape, n, x.tokens, x.want)
		}
	}
}

// P4.6, P4.13: the texts of many elements, and back; and texts in which something was changed.
func TestTextsBack(t *testing.T) {
	r := rand.New(rand.NewSource(7))
	bytes := "none#abclsh{}[](), :-0123456789 \n"
	read := 0
	elemsOf(t, 8, func(u api.Lattice, x api.Elem) {
		want := plainText(u, x)
		s, e := elem.Text(u, x)
		if s != want || e != api.OK {
			t.Fatalf("Text, %v, of %v: %q, %v", u.Shape, x, s, e)
		}
		if y, e := elem.Parse(u, s); !same(y, x) || e != api.OK {
			t.Fatalf("Parse, %v, of %q: %v, %v", u.Shape, s, y, e)
		}
		for _, end := range []string{" ", "\n", ",", "]", ")", "}"} {
			if y, e := elem.Parse(u, s+end); !same(y, none()) || e != api.ErrForm {
				t.Fatalf("Parse, %v, of %q: %v, %v", u.Shape, s+end, y, e)
			}
		}
		if checkText(t, u, " "+s) {
			t.Fatalf("Parse, %v, reads %q behind a blank", u.Shape, s)
		}
		for range 10 {
			at, to := r.Intn(len(s)+1), r.Intn(2)
			c := bytes[r.Intn(len(bytes))]
			if checkText(t, u, s[:at]+strings.Repeat(string(c), r.Intn(2))+s[min(len(s), at+to):]) {
				read++
			}
		}
	})
	if read < 1000 {
		t.Errorf("%d changed texts were read", read)
	}
}

// digits returns a key with so many digits, from 3 to 9, which ascends with its number (below 100).
func digits(n, i int) int {
	out := i
	for tens := 1; n > 1; n-- {
		tens *= 10
		if n == 2 {
			out += tens
		}
	}
	return out
}

// sizedText returns a map of sets with a text of so many bytes.
func sizedText(u api.Lattice, size int) api.Elem {
	lengths := slices.Repeat([]int{3}, 240)
	build := func() api.Elem {
		out := mapOf(upTo(6))
		for i := range 6 {
			var keys []int
			for j := range 40 {
				keys = append(keys, digits(lengths[i*40+j], j))
			}
			out.Kids = append(out.Kids, set(keys...))
		}
		return out
	}
	// What comes late in a set has more digits.
	rest := size - len(plainText(u, build()))
	for i := 5; i >= 0; i-- {
		for j := 39; j >= 0; j-- {
			more := min(rest, 6)
			lengths[i*40+j] += more
			rest -= more
		}
	}
	return build()
}

// P4.6: texts of 2500 bytes, and of more.
func TestLongTexts(t *testing.T) {
	u := latticeOf(t, "map(set)")
	for size := 2490; size <= 2510; size++ {
		x := sizedText(u, size)
		want := plainText(u, x)
		if len(want) != size || !plainHolds(u, x) {
			t.Fatalf("an element whose text should have %d bytes has one of %d: %v", size, len(want), x)
		}
		s, e := elem.Text(u, x)
		y, f := elem.Parse(u, want)
		if size <= 2500 && (s != want || e != api.OK || !same(x, y) || f != api.OK) {
			t.Errorf("Text and Parse of %d bytes: %q, %v, %v, %v", size, s, e, y, f)
		}
		if size > 2500 && (s != "" || e != api.ErrLimit || !same(y, none()) || f != api.ErrLimit) {
			t.Errorf("Text and Parse of %d bytes: %q, %v, %v, %v", size, s, e, y, f)
		}
	}
	for _, size := range []int{2500, 2501, 100000} {
		want := api.ErrForm
		if size > 2500 {
			want = api.ErrLimit
		}
		for _, s := range []string{"x", "{", "1", "(", "["} {
			if y, e := elem.Parse(u, strings.Repeat(s, size)); !same(y, none()) || e != want {
				t.Errorf("Parse of %d %q: %v, %v", size, s, y, e)
			}
		}
	}
}
