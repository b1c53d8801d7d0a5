package order_test

import (
	"iter"
	"strings"
	"testing"

	"dripstone/api"
	"dripstone/order"
)

// P3.6: texts of tables by hand, and back.
func TestTexts(t *testing.T) {
	for _, x := range []struct {
		s string
		x api.Table
	}{
		{"lattice l { a: b, c; b: d; c: d; d! }", api.Table{Name: "l", Elems: []string{"a", "b", "c", "d"}, Above: [][]int{{1, 2}, {3}, {3}, nil}, Wrong: []bool{false, false, false, true}}},
		{"lattice x { a }", api.Table{Name: "x", Elems: []string{"a"}, Above: [][]int{{}}, Wrong: []bool{false}}},
		{"lattice x { a!: a }", api.Table{Name: "x", Elems: []string{"a"}, Above: [][]int{{0}}, Wrong: []bool{true}}},
		{"lattice lattice { lattice: set, map; set!: lattice; map! }", api.Table{Name: "lattice", Elems: []string{"lattice", "set", "map"}, Above: [][]int{{1, 2}, {0}, nil}, Wrong: []bool{false, true, true}}},
		{"lattice ab1 { z9; abcdefghijkl }", api.Table{Name: "ab1", Elems: []string{"z9", "abcdefghijkl"}, Above: [][]int{nil, nil}, Wrong: []bool{false, false}}},
	} {
		if s, e := order.Text(x.x); s != x.s || e != api.OK {
			t.Errorf("Text of %v: %q, %v", x.x, s, e)
		}
		if y, e := order.Parse(x.s); !sameTable(y, x.x) || e != api.OK {
			t.Errorf("Parse of %q: %v, %v", x.s, y, e)
		}
	}
	for _, x := range flawedTables() {
		if s, e := order.Text(x.Table); s != "" || e != api.ErrForm {
			t.Errorf("Text, %q: %q, %v", x.why, s, e)
		}
	}
}

// P3.6: each table has a text, and is the one with this text.
func TestTextsBack(t *testing.T) {
	back := func(x api.Table) {
		s, e := order.Text(x)
		if e != api.OK {
			t.Fatalf("Text of %v: %v", x, e)
		}
		if y, e := order.Parse(s); !sameTable(x, y) || e != api.OK {
			t.Fatalf("Parse of %q: %v, %v", s, y, e)
		}
	}
	for x := range smallTables() {
		back(x)
	}
	for x := range manyTables(3, 2000) {
		back(x)
	}
}

// P3.6: texts that are those of no table.
func TestNoTables(t *testing.T) {
	for _, s := range []string{
		"", " ", "lattice", "lattice ", "lattice x", "lattice x {", "lattice x { ", "lattice x { }", "lattice x {  }", "lattice x {a}", "lattice x { a}", "lattice x { a } ", " lattice x { a }",
		"lattice  x { a }", "lattice x { a; }", "lattice x { ; a }", "lattice x { a;b }", "lattice x { a ; b }", "lattice x { a: }", "lattice x { a:a }", "lattice x { a:  a }", "lattice x { a: b }",
		"lattice x { a: b,c; b; c }", "lattice x { a: b, ; b }", "lattice x { a: b b; b }", "lattice x { a: b, b; b }", "lattice x { a: c, b; b; c }", "lattice x { a !; b }", "lattice x { a!!; b }", "lattice x { !; b }",
		"lattice x { a; a }", "lattice x { a: a; b: a; a }", "lattice x { A }", "lattice X { a }", "lattice 1 { a }", "lattice x { 1 }", "lattice set { a }", "lattice flag { a }", "table x { a }", "lattice x { a }\n", "lattice x\n{ a }",
		"lattice x { a } }", "lattice x { a: b!; b }", "lattice x { abcdefghijklm }", "lattice abcdefghijklm { a }", "lattice x { é }", "lattice x { a\x00 }", "lattice x { a\xff }", "\xff", "lattice x { a: ; b }",
		"lattice x { a; b; c; d; e; f; g; h; i; j; k; l; m }", "lattice x { " + strings.Repeat("a; ", 100000) + "a }", "lattice x { a: " + strings.Repeat("a, ", 100000) + "a }", strings.Repeat("a", 1000000),
	} {
		if x, e := order.Parse(s); !sameTable(x, api.Table{}) || e != api.ErrForm {
			t.Errorf("Parse of %.60q: %v, %v", s, x, e)
		}
	}
}

// changed yields all texts with one byte less, another one, or one more.
func changed(s, alphabet string) iter.Seq[string] {
	return func(yield func(string) bool) {
		for at := range len(s) + 1 {
			if at < len(s) && !yield(s[:at]+s[at+1:]) {
				return
			}
			for i := range len(alphabet) {
				if at < len(s) && !yield(s[:at]+alphabet[i:i+1]+s[at+1:]) {
					return
				}
				if !yield(s[:at] + alphabet[i:i+1] + s[at:]) {
					return
				}
			}
		}
	}
}

// P3.6: a text that is nearly that of a table is read just if it is that of the table it is read as.
func TestNearlyTables(t *testing.T) {
	const alphabet = "abcdx19A !:;,{}\n\x00\x80"
	right := 0
	for _, s := range append(latticeTexts(), cycleText, noneText, manyText, wrongText) {
		for one := range changed(s, alphabet) {
			for _, u := range []string{one, strings.Replace(one, " ", "", 1), one + s} {
				x, e := order.Parse(u)
				if e == api.ErrForm && sameTable(x, api.Table{}) {
					continue
				}
				right++
				if again, f := order.Text(x); again != u || e != api.OK || f != api.OK {
					t.Fatalf("Parse of %q: %v, %v, with the text %q, %v", u, x, e, again, f)
				}
			}
		}
	}
	if right < 500 {
		t.Errorf("just %d texts were those of tables", right)
	}
}
