package order_test

import (
	"math"
	"slices"
	"strings"
	"testing"

	"dripstone/api"
	"dripstone/order"
)

// flawed is a table that has not its form, with what is wrong about it.
type flawed struct {
	why string
	api.Table
}

// flawedTables returns tables each of which has its form but for one thing.
func flawedTables() []flawed {
	var out []flawed
	add := func(why string, n int, change func(x *api.Table)) {
		x := emptyTable(n)
		change(&x)
		out = append(out, flawed{why, x})
	}
	for _, name := range []string{"", "flag", "max", "set", "once", "map", "pair", "A", "aB", "1a", "a_", "a b", " a", "a ", "é", "aé", "a\x00", "a\xff", "abcdefghijklm", strings.Repeat("a", 5000)} {
		add("Name "+name, 2, func(x *api.Table) { x.Name = name })
		if len(name) < 3 || len(name) > 4 {
			add("Elems "+name, 2, func(x *api.Table) { x.Elems[1] = name })
		}
	}
	add("no elements", 0, func(x *api.Table) {})
	add("13 elements", 13, func(x *api.Table) {})
	add("two elements of one name", 3, func(x *api.Table) { x.Elems[2] = x.Elems[0] })
	add("Above too short", 2, func(x *api.Table) { x.Above = x.Above[:1] })
	add("Above too long", 2, func(x *api.Table) { x.Above = append(x.Above, nil) })
	add("no Above", 1, func(x *api.Table) { x.Above = nil })
	add("Wrong too short", 2, func(x *api.Table) { x.Wrong = x.Wrong[:1] })
	add("Wrong too long", 2, func(x *api.Table) { x.Wrong = append(x.Wrong, false) })
	add("no Wrong", 1, func(x *api.Table) { x.Wrong = nil })
	for _, above := range [][]int{{3}, {-1}, {-1, 0}, {1, 3}, {1, 1}, {2, 1}, {0, 2, 1}, {math.MinInt}, {math.MaxInt}, {0, 1, 2, 2}} {
		add("Above", 3, func(x *api.Table) { x.Above[1] = above })
		add("Above of the last one", 3, func(x *api.Table) { x.Above[2] = above })
	}
	return append(out, flawed{"zero", api.Table{}})
}

// P3.1: the form of tables.
func TestCheck(t *testing.T) {
	for _, x := range flawedTables() {
		if e := order.Check(x.Table); e != api.ErrForm {
			t.Errorf("Check, %q: %v", x.why, e)
		}
		if b, e := order.Prove(x.Table); b != (api.Break{}) || e != api.ErrForm {
			t.Errorf("Prove, %q: %v, %v", x.why, b, e)
		}
	}
	right := emptyTable(12)
	right.Name, right.Elems[0], right.Elems[1], right.Elems[2], right.Elems[3] = "abcdefghijkl", "z", "a0123456789z", "map", "lattice"
	right.Above[0], right.Above[11] = []int{0, 1, 11}, []int{0, 1, 2, 3, 4, 5, 6, 7, 8, 9, 10, 11}
	for _, x := range []api.Table{right, emptyTable(1), emptyTable(2), tableOf(3, 511, 7), {Name: "task", Elems: []string{"task"}, Above: [][]int{{}}, Wrong: []bool{true}}} {
		if e := order.Check(x); e != api.OK {
			t.Errorf("Check of %v: %v", x, e)
		}
	}
}

// P3.1: the break of a table.
func TestProve(t *testing.T) {
	for _, x := range []struct {
		s string
		b api.Break
	}{
		{baseText, api.Break{Kind: api.BreakBase, A: 1}},
		{cycleText, api.Break{Kind: api.BreakCycle}},
		{noneText, api.Break{Kind: api.BreakNone, A: 1, B: 2}},
		{manyText, api.Break{Kind: api.BreakMany, A: 1, B: 2}},
		{wrongText, api.Break{Kind: api.BreakWrong, A: 1, B: 2}},
		{"lattice x { a! }", api.Break{Kind: api.BreakWrong}},
		{"lattice x { a!: b; b! }", api.Break{Kind: api.BreakWrong}},
		{"lattice x { a!: b; b }", api.Break{Kind: api.BreakWrong}},
		{"lattice x { a: b, c; b; c: c }", api.Break{Kind: api.BreakCycle, A: 2}},
		{"lattice x { a; b: c; c: d; d: b }", api.Break{Kind: api.BreakCycle, A: 1}},
		{"lattice x { a: b; b; c }", api.Break{Kind: api.BreakBase, A: 2}},
		{"lattice x { a: b, c, d; b: d; c: d; d!: e; e }", api.Break{Kind: api.BreakWrong, A: 3, B: 4}},
		// A pair that has nothing above both is before one that has too much, and the other way round.
		{"lattice x { a: b, c, f, g; b; c: d, e; d; e; f: d, e; g }", api.Break{Kind: api.BreakNone, A: 1, B: 2}},
		{"lattice x { a: b, c, f; b: d, e; c: d, e; d; e; f }", api.Break{Kind: api.BreakMany, A: 1, B: 2}},
		{"lattice x { a: b, d; b: c, e; c; d: c, e; e }", api.Break{Kind: api.BreakMany, A: 1, B: 3}},
		{"lattice x { a!: b, c; b; c }", api.Break{Kind: api.BreakNone, A: 1, B: 2}},
	} {
		if b, e := order.Prove(mustRead(t, x.s)); b != x.b || e != api.ErrFalse {
			t.Errorf("Prove of %s: %v, %v", x.s, b, e)
		}
	}
	for _, s := range latticeTexts() {
		if b, e := order.Prove(mustRead(t, s)); b != (api.Break{}) || e != api.OK {
			t.Errorf("Prove of %s: %v, %v", s, b, e)
		}
	}
}

// checkTable compares all that is said of a table that has its form with what the chapter's definitions say.
func checkTable(t *testing.T, x api.Table) {
	t.Helper()
	p := newPlain(x)
	want, wantError := api.Break{}, api.OK
	if l := p.breaks(); len(l) > 0 {
		want, wantError = l[0], api.ErrFalse
	}
	if b, e := order.Prove(x); b != want || e != wantError {
		t.Fatalf("Prove of %v: %v, %v, and not %v", x, b, e, want)
	}
	for a := range x.Elems {
		if l, e := order.Reach(x, a); !slices.Equal(l, p.reach(a)) || e != api.OK {
			t.Fatalf("Reach of %d of %v: %v, %v", a, x, l, e)
		}
		for b := range x.Elems {
			if is := mustBelow(t, x, a, b); is != p.below(a, b) {
				t.Fatalf("Below of %d, %d of %v: %v", a, b, x, is)
			}
		}
	}
	if wantError == api.OK {
		checkLattice(t, x, p)
	} else {
		checkNoLattice(t, x)
	}
}

// checkLattice compares what is said of lattices alone.
func checkLattice(t *testing.T, x api.Table, p plain) {
	t.Helper()
	for a := range x.Elems {
		for b := range x.Elems {
			if j := mustJoin(t, x, a, b); !slices.Equal([]int{j}, p.joins(a, b)) {
				t.Fatalf("Join of %d, %d of %v: %d", a, b, x, j)
			}
		}
		if l, e := order.Parts(x, a); !slices.Equal(l, p.parts(a)) || e != api.OK {
			t.Fatalf("Parts of %d of %v: %v, %v", a, x, l, e)
		}
	}
	if l, e := order.Primes(x); !slices.Equal(l, p.primes()) || e != api.OK {
		t.Fatalf("Primes of %v: %v, %v", x, l, e)
	}
	if h, e := order.Height(x); h != p.height(0) || e != api.OK {
		t.Fatalf("Height of %v: %d, %v", x, h, e)
	}
	want := api.Table{Name: x.Name, Elems: x.Elems, Wrong: x.Wrong}
	for a := range x.Elems {
		want.Above = append(want.Above, p.rightAbove(a))
	}
	if s, e := order.Slim(x); !sameTable(s, want) || e != api.OK {
		t.Fatalf("Slim of %v: %v, %v", x, s, e)
	}
}

// checkNoLattice checks that a table that is no lattice has no joins, primes, parts or height, and is not made slim, whatever the elements are.
func checkNoLattice(t *testing.T, x api.Table) {
	t.Helper()
	for _, a := range []int{0, len(x.Elems) - 1, -1, 99} {
		if j, e := order.Join(x, a, 0); j != 0 || e != api.ErrFalse {
			t.Fatalf("Join of %d, 0 of %v: %d, %v", a, x, j, e)
		}
		if j, e := order.Join(x, 0, a); j != 0 || e != api.ErrFalse {
			t.Fatalf("Join of 0, %d of %v: %d, %v", a, x, j, e)
		}
		if l, e := order.Parts(x, a); l != nil || e != api.ErrFalse {
			t.Fatalf("Parts of %d of %v: %v, %v", a, x, l, e)
		}
	}
	if l, e := order.Primes(x); l != nil || e != api.ErrFalse {
		t.Fatalf("Primes of %v: %v, %v", x, l, e)
	}
	if h, e := order.Height(x); h != 0 || e != api.ErrFalse {
		t.Fatalf("Height of %v: %d, %v", x, h, e)
	}
	if s, e := order.Slim(x); !sameTable(s, api.Table{}) || e != api.ErrFalse {
		t.Fatalf("Slim of %v: %v, %v", x, s, e)
	}
}

// P3.1 to P3.5: all small tables, and many greater ones, with every kind of break.
func TestAllTables(t *testing.T) {
	met := map[uint8]int{}
	greatest := 0
	check := func(x api.Table) {
		b, _ := order.Prove(x)
		met[b.Kind]++
		greatest = max(greatest, len(x.Elems))
		checkTable(t, x)
	}
	for x := range smallTables() {
		check(x)
	}
	for x := range manyTables(1, 3000) {
		check(x)
	}
	for kind := uint8(0); kind <= api.BreakWrong; kind++ {
		if met[kind] < 100 {
			t.Errorf("just %d tables had a break of kind %d", met[kind], kind)
		}
	}
	if greatest != api.MaxElems {
		t.Errorf("no table had more than %d elements", greatest)
	}
}

// P3.2 to P3.5: the examples of the chapter, and others by hand.
func TestByHand(t *testing.T) {
	for _, x := range []struct {
		s       string
		a, b, j int
		primes  []int
		parts   []int
		height  int
	}{
		{diamondText, 1, 2, 3, []int{1, 2}, []int{1, 2}, 2},
		{chainText, 1, 3, 3, []int{1, 2, 3}, []int{3}, 3},
		{threeText, 2, 3, 4, []int{1, 2, 3}, []int{1, 2, 3}, 2},
		{pentText, 1, 3, 4, []int{1, 2, 3}, []int{2, 3}, 3},
		{cubeText, 1, 6, 7, []int{1, 2, 3}, []int{1, 2, 3}, 3},
		{onlyText, 0, 0, 0, nil, nil, 0},
	} {
		u := mustRead(t, x.s)
		if j := mustJoin(t, u, x.a, x.b); j != x.j {
			t.Errorf("Join of %d, %d of %s: %d", x.a, x.b, x.s, j)
		}
		if l, e := order.Primes(u); !slices.Equal(l, x.primes) || e != api.OK {
			t.Errorf("Primes of %s: %v, %v", x.s, l, e)
		}
		if l, e := order.Parts(u, len(u.Elems)-1); !slices.Equal(l, x.parts) || e != api.OK {
			t.Errorf("Parts of the last element of %s: %v, %v", x.s, l, e)
		}
		if l, e := order.Parts(u, 0); l != nil || e != api.OK {
			t.Errorf("Parts of 0 of %s: %v, %v", x.s, l, e)
		}
		if h, e := order.Height(u); h != x.height || e != api.OK {
			t.Errorf("Height of %s: %d, %v", x.s, h, e)
		}
	}
	for s, want := range map[string]string{
		"lattice q { a: b, c; b: c; c }":                      "lattice q { a: b; b: c; c }",
		"lattice q { a: b, c, d; b: d; c: d; d! }":            "lattice q { a: b, c; b: d; c: d; d! }",
		"lattice q { a: b, c, d, e; b: c, e; c: d; d: e; e }": "lattice q { a: b; b: c; c: d; d: e; e }",
		onlyText: onlyText,
		cubeText: cubeText,
	} {
		if u, e := order.Slim(mustRead(t, s)); !sameTable(u, mustRead(t, want)) || e != api.OK {
			t.Errorf("Slim of %s: %v, %v", s, u, e)
		}
	}
	if l, e := order.Reach(mustRead(t, cycleText), 1); !slices.Equal(l, []int{0, 1}) || e != api.OK {
		t.Errorf("Reach of 1 of %s: %v, %v", cycleText, l, e)
	}
}

// P3.2 to P3.5: errors, and their order.
func TestElementErrors(t *testing.T) {
	check := func(x api.Table, a int, want api.Errno) {
		t.Helper()
		if l, e := order.Reach(x, a); l != nil || e != want {
			t.Errorf("Reach of %d of %v: %v, %v", a, x, l, e)
		}
		if l, e := order.Parts(x, a); l != nil || e != want {
			t.Errorf("Parts of %d of %v: %v, %v", a, x, l, e)
		}
		for _, ab := range [][2]int{{a, 0}, {0, a}, {a, a}} {
			if is, e := order.Below(x, ab[0], ab[1]); is || e != want {
				t.Errorf("Below of %v of %v: %v, %v", ab, x, is, e)
			}
			if j, e := order.Join(x, ab[0], ab[1]); j != 0 || e != want {
				t.Errorf("Join of %v of %v: %v, %v", ab, x, j, e)
			}
		}
	}
	for _, s := range latticeTexts() {
		x := mustRead(t, s)
		for _, a := range []int{-1, len(x.Elems), 12, 16, 64, math.MinInt, math.MaxInt} {
			check(x, a, api.ErrNone)
		}
	}
	for _, x := range flawedTables() {
		for _, a := range []int{0, -1, 99} {
			check(x.Table, a, api.ErrForm)
		}
		if l, e := order.Primes(x.Table); l != nil || e != api.ErrForm {
			t.Errorf("Primes, %q: %v, %v", x.why, l, e)
		}
		if h, e := order.Height(x.Table); h != 0 || e != api.ErrForm {
			t.Errorf("Height, %q: %v, %v", x.why, h, e)
		}
		if u, e := order.Slim(x.Table); !sameTable(u, api.Table{}) || e != api.ErrForm {
			t.Errorf("Slim, %q: %v, %v", x.why, u, e)
		}
	}
	for _, s := range []string{cycleText, baseText, noneText, manyText, wrongText} {
		x := mustRead(t, s)
		checkNoLattice(t, x)
		for _, a := range []int{-1, len(x.Elems)} {
			if _, e := order.Reach(x, a); e != api.ErrNone {
				t.Errorf("Reach of %d of %s: %v", a, s, e)
			}
			if _, e := order.Below(x, 0, a); e != api.ErrNone {
				t.Errorf("Below of 0, %d of %s: %v", a, s, e)
			}
		}
	}
}
