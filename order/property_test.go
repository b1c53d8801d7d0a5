package order_test

import (
	"math/rand"
	"slices"
	"testing"

	"dripstone/api"
	"dripstone/order"
)

// P3.9, P3.10: joins, and what is wrong for ever.
func TestJoins(t *testing.T) {
	for x := range manyLattices(11, 150) {
		n := len(x.Elems)
		j := make([][]int, n)
		for a := range n {
			for b := range n {
				j[a] = append(j[a], mustJoin(t, x, a, b))
			}
		}
		for a := range n {
			if j[a][a] != a || j[a][0] != a || j[0][a] != a {
				t.Fatalf("Join of %d of %v and itself, or 0: %v", a, x, j)
			}
			for b := range n {
				if j[a][b] != j[b][a] || (j[a][b] == b) != mustBelow(t, x, a, b) {
					t.Fatalf("Join of %d, %d of %v: %v", a, b, x, j)
				}
				if x.Wrong[a] && !x.Wrong[j[a][b]] {
					t.Fatalf("Join of %d, %d of %v is not wrong: %v", a, b, x, j)
				}
				for c := range n {
					above := mustBelow(t, x, a, c) && mustBelow(t, x, b, c)
					if j[a][j[b][c]] != j[j[a][b]][c] || above != mustBelow(t, x, j[a][b], c) {
						t.Fatalf("Join of %d, %d, %d of %v: %v", a, b, c, x, j)
					}
				}
			}
		}
	}
}

// P3.11: parts.
func TestParts(t *testing.T) {
	for x := range manyLattices(12, 400) {
		primes, e := order.Primes(x)
		if e != api.OK {
			t.Fatalf("Primes of %v: %v", x, e)
		}
		var all [][]int
		for a := range x.Elems {
			parts, e := order.Parts(x, a)
			if e != api.OK {
				t.Fatalf("Parts of %d of %v: %v", a, x, e)
			}
			sum := 0
			for _, p := range parts {
				sum = mustJoin(t, x, sum, p)
			}
			if sum != a || slices.Contains(primes, a) != slices.Equal(parts, []int{a}) {
				t.Fatalf("Parts of %d of %v: %v", a, x, parts)
			}
			all = append(all, parts)
		}
		for a := range x.Elems {
			for b := range x.Elems {
				for _, p := range all[a] {
					under := slices.ContainsFunc(all[b], func(q int) bool { return mustBelow(t, x, p, q) })
					if mustBelow(t, x, a, b) && !under {
						t.Fatalf("Parts of %d, %d of %v: %v", a, b, x, all)
					}
				}
			}
		}
	}
}

// P3.12: the height is how often joins from 0 on change the element at most.
func TestHeight(t *testing.T) {
	for x := range manyLattices(13, 200) {
		memo := map[int]int{}
		var changes func(a int) int
		changes = func(a int) int {
			if n, ok := memo[a]; ok {
				return n
			}
			most := 0
			for b := range x.Elems {
				if j := mustJoin(t, x, a, b); j != a {
					most = max(most, 1+changes(j))
				}
			}
			memo[a] = most
			return most
		}
		if h, e := order.Height(x); h != changes(0) || e != api.OK {
			t.Fatalf("Height of %v: %d, %v, and not %d", x, h, e, changes(0))
		}
	}
	top := emptyTable(12)
	for a := range 11 {
		top.Above[a] = []int{a + 1}
	}
	if h, e := order.Height(top); h != 11 || e != api.OK {
		t.Errorf("Height of the longest chain: %d, %v", h, e)
	}
}

// reaches returns what is above each element.
func reaches(t *testing.T, x api.Table) [][]int {
	t.Helper()
	var out [][]int
	for a := range x.Elems {
		l, e := order.Reach(x, a)
		if e != api.OK {
			t.Fatalf("Reach of %d of %v: %v", a, x, e)
		}
		out = append(out, l)
	}
	return out
}

// P3.5, P3.13: slim tables.
func TestSlim(t *testing.T) {
	for x := range manyLattices(14, 300) {
		s, e := order.Slim(x)
		if e != api.OK || s.Name != x.Name || !slices.Equal(s.Elems, x.Elems) || !slices.Equal(s.Wrong, x.Wrong) {
			t.Fatalf("Slim of %v: %v, %v", x, s, e)
		}
		if again, e := order.Slim(s); !sameTable(again, s) || e != api.OK {
			t.Fatalf("Slim of %v: %v, %v", s, again, e)
		}
		old := reaches(t, x)
		if !slices.EqualFunc(reaches(t, s), old, slices.Equal[[]int]) {
			t.Fatalf("Slim of %v: %v has not the same elements above each", x, s)
		}
		for a := range x.Elems {
			for b := range x.Elems {
				if mustJoin(t, x, a, b) != mustJoin(t, s, a, b) {
					t.Fatalf("Join of %d, %d of %v and of %v", a, b, x, s)
				}
			}
			for i := range s.Above[a] {
				less := copyTable(s)
				less.Above[a] = slices.Delete(less.Above[a], i, i+1)
				if slices.EqualFunc(reaches(t, less), old, slices.Equal[[]int]) {
					t.Fatalf("Slim of %v: %v has more above %d than it needs", x, s, a)
				}
			}
		}
	}
}

// renumbered returns a table in which each element a has the number to[a].
func renumbered(x api.Table, to []int) api.Table {
	out := emptyTable(len(x.Elems))
	for a := range x.Elems {
		out.Elems[to[a]], out.Wrong[to[a]] = x.Elems[a], x.Wrong[a]
		for _, b := range x.Above[a] {
			out.Above[to[a]] = append(out.Above[to[a]], to[b])
		}
		slices.Sort(out.Above[to[a]])
	}
	return out
}

// P3.14: other numbers change neither whether there is a break nor the joins.
func TestOtherNumbers(t *testing.T) {
	r := rand.New(rand.NewSource(15))
	lattices := 0
	for x := range manyTables(16, 1500) {
		to := []int{0}
		for _, a := range r.Perm(len(x.Elems) - 1) {
			to = append(to, a+1)
		}
		y := renumbered(x, to)
		_, e := order.Prove(x)
		if _, f := order.Prove(y); e != f {
			t.Fatalf("Prove of %v and of %v: %v, %v", x, y, e, f)
		}
		if e != api.OK {
			continue
		}
		lattices++
		for a := range x.Elems {
			for b := range x.Elems {
				if to[mustJoin(t, x, a, b)] != mustJoin(t, y, to[a], to[b]) {
					t.Fatalf("Join of %d, %d of %v and of %v", a, b, x, y)
				}
			}
		}
	}
	if lattices < 200 || lattices > 1300 {
		t.Errorf("%d tables of 1500 were lattices", lattices)
	}
}

// P3.15: the pairs before a break of BreakNone or BreakMany have joins, and this one has none.
func TestLeast(t *testing.T) {
	met := map[uint8]int{}
	check := func(x api.Table) {
		found, _ := order.Prove(x)
		if found.Kind != api.BreakNone && found.Kind != api.BreakMany {
			return
		}
		met[found.Kind]++
		p := newPlain(x)
		for a := range found.A + 1 {
			for b := a + 1; b < len(x.Elems) && (a < found.A || b < found.B); b++ {
				if len(p.joins(a, b)) != 1 {
					t.Fatalf("Prove of %v: %v, but %d, %d have no join", x, found, a, b)
				}
			}
		}
		if found.A >= found.B || len(p.joins(found.A, found.B)) != 0 || (len(p.bounds(found.A, found.B)) == 0) != (found.Kind == api.BreakNone) {
			t.Fatalf("Prove of %v: %v", x, found)
		}
	}
	for x := range smallTables() {
		check(x)
	}
	for x := range manyTables(17, 3000) {
		check(x)
	}
	if met[api.BreakNone] < 100 || met[api.BreakMany] < 100 {
		t.Errorf("kinds of breaks: %v", met)
	}
}

// P1, P2, R2: for all arguments the functions end, and with an error there are zero values; no call changes what another one returns.
func TestAnyValues(t *testing.T) {
	wide := emptyTable(12)
	wide.Above[3] = make([]int, 100000)
	long := emptyTable(2)
	long.Elems = slices.Repeat(long.Elems, 100000)
	for _, x := range []api.Table{{}, wide, long, {Above: [][]int{{-5}}, Wrong: []bool{true}}, {Name: "x", Elems: make([]string, 12), Above: make([][]int, 12), Wrong: make([]bool, 12)}} {
		checkNothing(t, x)
	}
	for x := range manyTables(18, 200) {
		text, _ := order.Text(x)
		b, e := order.Prove(x)
		s, f := order.Slim(x)
		checkTable(t, x)
		again, _ := order.Text(x)
		c, g := order.Prove(x)
		u, h := order.Slim(x)
		if text != again || b != c || e != g || !sameTable(s, u) || f != h {
			t.Fatalf("two calls with %v: %v, %v; %v, %v", x, b, e, c, g)
		}
	}
}

// checkNothing checks that all functions refuse a table that has not its form.
func checkNothing(t *testing.T, x api.Table) {
	t.Helper()
	_, e1 := order.Prove(x)
	_, e2 := order.Reach(x, 0)
	_, e3 := order.Below(x, 0, 0)
	_, e4 := order.Join(x, 0, 0)
	_, e5 := order.Primes(x)
	_, e6 := order.Parts(x, 0)
	_, e7 := order.Height(x)
	_, e8 := order.Slim(x)
	_, e9 := order.Text(x)
	e10 := order.CheckShape([]api.Table{x}, api.Shape{Kind: api.ShapeFlag})
	for i, e := range []api.Errno{order.Check(x), e1, e2, e3, e4, e5, e6, e7, e8, e9, e10} {
		if e != api.ErrForm {
			t.Errorf("call %d: %v", i, e)
		}
	}
}

// R3, R4: nil and empty lists are the same; no argument changes, nor its spare room; results have memory of their own, list by list.
func TestMemory(t *testing.T) {
	for _, s := range append(latticeTexts(), cycleText, manyText) {
		x := mustRead(t, s)
		roomy := copyTable(x)
		for a := range roomy.Above {
			roomy.Above[a] = append(roomy.Above[a], 7, 7, 7)[:len(roomy.Above[a])]
		}
		roomy.Elems = append(roomy.Elems, "spare", "room")[:len(x.Elems)]
		roomy.Wrong = append(roomy.Wrong, true, true)[:len(x.Elems)]
		roomy.Above = append(roomy.Above, []int{9}, []int{9})[:len(x.Elems)]
		checkTable(t, roomy)
		slim, _ := order.Slim(roomy)
		for _, y := range []api.Table{slim, x} {
			scribble(y)
		}
		if !sameTable(roomy, mustRead(t, s)) || !slices.Equal(roomy.Elems[:len(x.Elems)+2][len(x.Elems):], []string{"spare", "room"}) || !slices.Equal(roomy.Above[:len(x.Elems)+1][len(x.Elems)], []int{9}) {
			t.Fatalf("%s changed: %v", s, roomy)
		}
		for _, above := range roomy.Above {
			if !slices.Equal(above[:len(above)+3][len(above):], []int{7, 7, 7}) {
				t.Fatalf("what is behind the lists of %s changed: %v", s, roomy)
			}
		}
	}
	empty := api.Table{Name: "x", Elems: []string{"a", "b"}, Above: [][]int{{1}, {}}, Wrong: []bool{false, false}}
	checkTable(t, empty)
	kids := []api.Shape{{Kind: api.ShapeFlag, Kids: []api.Shape{}}, {Kind: api.ShapeSet}}
	if s, e := order.ShapeText(api.Shape{Kind: api.ShapePair, Kids: kids}); s != "pair(flag, set)" || e != api.OK {
		t.Errorf("ShapeText with an empty list: %q, %v", s, e)
	}
	if kids[0].Kind != api.ShapeFlag || kids[1].Kids != nil {
		t.Errorf("ShapeText changed the kids: %v", kids)
	}
}

// scribble writes over all lists of a table, with their spare room, list by list, and stops at the first one that another one has changed.
func scribble(x api.Table) {
	for a := range x.Above {
		l := x.Above[a][:cap(x.Above[a])]
		for i := range l {
			l[i] = 100 + a
		}
	}
	for a := range x.Above {
		if slices.ContainsFunc(x.Above[a], func(b int) bool { return b != 100+a }) {
			panic("two lists share memory")
		}
	}
	for i := range x.Elems[:cap(x.Elems)] {
		x.Elems[:cap(x.Elems)][i] = "over"
	}
	for i := range x.Wrong[:cap(x.Wrong)] {
		x.Wrong[:cap(x.Wrong)][i] = true
	}
}
