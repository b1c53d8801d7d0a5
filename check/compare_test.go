package check_test

import (
	"math/rand"
	"slices"
	"strings"
	"testing"

	"dripstone/api"
	"dripstone/check"
	"dripstone/parse"
)

// numbers returns the numbers of some nodes, -1 of none.
func numbers(l ...*piece) []int {
	var out []int
	for _, x := range l {
		if x == nil {
			out = append(out, -1)
		} else {
			out = append(out, x.n)
		}
	}
	return out
}

// compare compares the verdicts on a tree whose form is right with the definitions, and returns which clause it breaks.
func compare(t *testing.T, u api.Tree) string {
	t.Helper()
	p := newPlain(u)
	want := p.verdict()
	if node, e := check.Module(u); node != want.n || e != want.e {
		t.Fatalf("Module: %v at the node %d, and not %v of\n%s", e, node, want, mustPrint(t, u))
	}
	n, err := want.n, want.e
	if err == api.OK {
		n, err = p.program()
	}
	if node, e := check.Program(u); node != n || e != err {
		t.Fatalf("Program: %v at the node %d, and not %v at %d of\n%s", e, node, err, n, mustPrint(t, u))
	}
	return want.clause
}

// program returns what keeps a module from being a program.
func (p *plain) program() (int, api.Errno) {
	mains := p.those(func(x *piece) bool { return x.is(api.TaskItem) && x.Text == "main" })
	if len(mains) == 0 {
		return 0, api.ErrNone
	}
	for _, x := range mains[0].kids {
		if x.is(api.ParamNode) && !x.kids[0].is(api.IntType) {
			return x.n, api.ErrType
		}
	}
	for _, x := range p.those(func(x *piece) bool { return x.is(api.UseItem) }) {
		return x.n, api.ErrState
	}
	return 0, api.OK
}

// compareNotes compares what is told of a whole module.
func compareNotes(t *testing.T, u api.Tree) {
	t.Helper()
	p := newPlain(u)
	want := api.Notes{}
	for _, x := range p.all {
		var typed api.Type
		if x.isDecl() {
			typed = p.typeOf(x)
		}
		want.Means = append(want.Means, numbers(p.pointMeans(x))...)
		want.Types = append(want.Types, typed)
		want.Sites = append(want.Sites, slices.Index(p.sites(x.item()), x))
		want.Pools = append(want.Pools, len(p.pools(x)))
	}
	if got := mustLook(t, u); !sameNotes(got, want) {
		t.Fatalf("Look: %v, and not %v of\n%s", got, want, mustPrint(t, u))
	}
	if l, e := check.Tables(u); e != api.OK || !slices.EqualFunc(l, p.tables(), sameTable) {
		t.Fatalf("Tables: %v, %v of\n%s", l, e, mustPrint(t, u))
	}
	var effects []api.Effect
	for _, x := range p.those(func(x *piece) bool { return x.is(api.UseItem, api.TaskItem) }) {
		effects = append(effects, p.effect(x))
	}
	if l := mustEffects(t, u); !slices.EqualFunc(l, effects, sameEffect) {
		t.Fatalf("Effects: %v, and not %v of\n%s", l, effects, mustPrint(t, u))
	}
}

// compareNodes compares what is told of each node of a module.
func compareNodes(t *testing.T, u api.Tree) {
	t.Helper()
	p := newPlain(u)
	same := func(name string, x *piece, got []int, e api.Errno, want []*piece) {
		if e != api.OK || !slices.Equal(got, numbers(want...)) {
			t.Fatalf("%s of %d: %v, %v, and not %v of\n%s", name, x.n, got, e, numbers(want...), mustPrint(t, u))
		}
	}
	for i, item := range p.all[0].kids {
		if item.is(api.TaskItem) {
			l, e := check.Sites(u, i)
			same("Sites", item, l, e, p.sites(item))
		}
	}
	for _, x := range p.all {
		if x.Kind >= api.NewStmt && x.Kind <= api.FailStmt || x.Kind >= api.EqNode {
			l, e := check.Sight(u, x.n)
			same("Sight", x, l, e, p.sight[x])
		}
		if x.Kind >= api.FlagType && x.Kind <= api.PairType {
			if s, e := check.Shape(u, x.n); e != api.OK || !sameShape(s, x.shape()) {
				t.Fatalf("Shape of %d: %v, %v of\n%s", x.n, s, e, mustPrint(t, u))
			}
		}
		if x.is(api.EachStmt) {
			l, e := check.Captures(u, x.n)
			same("Captures", x, l, e, p.captured(x))
		}
		if x.is(api.EachStmt, api.FreezeStmt) {
			l, e := check.Passes(u, x.n)
			same("Passes", x, l, e, p.passers(x))
		}
		if x.is(api.PutStmt, api.WhenStmt) {
			want, constant := p.elements(x)
			wantError := api.OK
			if !constant {
				want, wantError = nil, api.ErrState
			}
			if l, e := check.Points(u, x.n); e != wantError || !slices.EqualFunc(l, want, sameElem) {
				t.Fatalf("Points of %d: %v, %v, and not %v of\n%s", x.n, l, e, want, mustPrint(t, u))
			}
		}
	}
}

// someModules returns the trees of modules, none of them without items.
func someModules(t *testing.T, seed int64, n int) []api.Tree {
	t.Helper()
	r := rand.New(rand.NewSource(seed))
	var out []api.Tree
	for len(out) < n {
		s := makeModule(r, 0, 0)
		u, _, e := parse.Parse(s)
		if e == api.ErrLimit || e == api.ErrRange {
			continue
		}
		if e != api.OK {
			t.Fatalf("Parse of %q: %v", s, e)
		}
		if node, e := check.Module(u); e != api.OK {
			t.Fatalf("Module: %v at the node %d of\n%s", e, node, mustPrint(t, u))
		}
		out = append(out, u)
	}
	return out
}

// P5.1 to P5.7: modules, as the definitions say.
func TestModules(t *testing.T) {
	for i, u := range someModules(t, 51, 600) {
		if clause := compare(t, u); clause != "" {
			t.Fatalf("%s: %s", mustPrint(t, u), clause)
		}
		compareNotes(t, u)
		if i%6 == 0 {
			compareNodes(t, u)
		}
	}
}

// P5.1: trees that break the rules in one place or another, as the definitions say. Each clause is broken often enough.
func TestBroken(t *testing.T) {
	r := rand.New(rand.NewSource(52))
	met := map[string]int{}
	for i := range 2000 {
		u, _, e := parse.Parse(makeModule(r, i%3, i%2*40))
		if e == api.OK {
			met[compare(t, u)]++
		}
	}
	for _, u := range someModules(t, 53, 500) {
		for range 15 {
			x := grown(u)
			for range 1 + r.Intn(3) {
				change(r, x)
			}
			v := x.tree()
			if e := parse.Check(v); e != api.OK {
				if node, f := check.Module(v); node != 0 || f != e {
					t.Fatalf("Module of a tree with the error %v: %v at the node %d", e, f, node)
				}
				continue
			}
			met[compare(t, v)]++
		}
	}
	for _, clause := range clauses() {
		if met[clause] == 0 {
			t.Errorf("no tree breaks: %s", clause)
		}
	}
}

// P5.1 to P5.7: growth, as the definitions say. Each clause is broken often.
func TestGrowth(t *testing.T) {
	r := rand.New(rand.NewSource(54))
	met := map[string]int{}
	for i := range 8000 {
		u := mustParse(t, makeGrowth(r))
		clause := compare(t, u)
		met[clause]++
		if clause == "" && i%4 == 0 {
			compareNotes(t, u)
			compareNodes(t, u)
		}
	}
	for _, clause := range []string{"", "a: not own", "a: no pool", "b", "c: each behind each", "c: each behind spawn", "c: freeze behind each", "c: freeze behind spawn", "d: put", "d: each", "d: freeze", "d: name"} {
		if met[clause] < 10 {
			t.Errorf("%s: %d times", clause, met[clause])
		}
	}
}

// clauses lists what is broken in TestBroken: all but the limits, and what TestGrowth breaks.
func clauses() []string {
	return append(strings.Split("a lattice twice,a task twice,an elem twice,a declaration twice,no lattice,no variable,no keys,no size,no value,no integer,arguments,a: not own,a: no pool,e: not constant,e: wrong,e: no exclusion", ","),
		strings.Split("no name: put,no name: when,no name: each,no name: freeze,no name: name,no name: size,no name: has,no name: value,no name: spawn,no name: named,no name: above,"+
			"a point: on,a point: at,a point: keys,a point: #,a point: key,a point: sides,an argument: name,an argument: num,an argument: neg,"+
			"d: put,d: when,d: each,d: freeze", ",")...)
}
