package tell_test

import (
	"math/rand"
	"reflect"
	"slices"
	"testing"

	"dripstone/api"
	"dripstone/order"
	"dripstone/tell"
)

// number, set, pair and on are elements.
func number(n int) api.Elem { return api.Elem{Kind: api.ElemInt, N: n} }

func set(keys ...int) api.Elem { return api.Elem{Kind: api.ElemSet, Keys: keys} }

func pair(a, b api.Elem) api.Elem { return api.Elem{Kind: api.ElemPair, Kids: []api.Elem{a, b}} }

func on() api.Elem { return api.Elem{Kind: api.ElemOn} }

// path returns a path of hops: site, piece, site, piece, ..
func path(l ...int) []api.Hop {
	var out []api.Hop
	for i := 0; i < len(l); i += 2 {
		out = append(out, api.Hop{Site: l[i], Piece: l[i+1]})
	}
	return out
}

// mustShape returns the shape with a text.
func mustShape(t *testing.T, s string) api.Shape {
	t.Helper()
	out, e := order.ParseShape(s)
	if e != api.OK {
		t.Fatalf("ParseShape of %q: %v", s, e)
	}
	return out
}

// mustTable returns the table with a text.
func mustTable(t *testing.T, s string) api.Table {
	t.Helper()
	out, e := order.Parse(s)
	if e != api.OK {
		t.Fatalf("Parse of %q: %v", s, e)
	}
	return out
}

// someOutcome returns an outcome with all that there can be in one. It is in no special order.
func someOutcome(t *testing.T) api.Outcome {
	return api.Outcome{
		Vars: []api.VarState{
			{Path: path(1, 0, 2, -5), Site: 3, Shape: mustShape(t, "pair(set, map(max))"), E: pair(set(1, 2), api.Elem{Kind: api.ElemMap, Keys: []int{7}, Kids: []api.Elem{number(4)}})},
			{Path: nil, Site: 1, Shape: mustShape(t, "l"), E: api.Elem{Kind: api.ElemName, N: 1}},
			{Path: path(1, 0), Site: 3, Shape: mustShape(t, "once")},
			{Path: nil, Site: 0, Shape: mustShape(t, "flag"), E: on()},
			{Path: path(1, 0, 2, -6), Site: 3, Shape: mustShape(t, "max"), E: number(-3)},
		},
		Fails: []int{3, -1, 3},
		Waits: []api.Wait{{Path: path(5, 1), Site: 2}, {Site: 9}},
		Tasks: 4,
		Steps: 20,
	}
}

// P6.7: Find returns the variable with a path and a site, the first one of several, in new memory.
func TestFind(t *testing.T) {
	o := someOutcome(t)
	for i, v := range o.Vars {
		if got, e := tell.Find(o, v.Path, v.Site); e != api.OK || !same(got, v) {
			t.Errorf("Find of the variable %d: %v, %v", i, got, e)
		}
	}
	for _, x := range []struct {
		path []api.Hop
		site int
	}{
		{nil, 2}, {nil, -1}, {nil, 3}, {path(1, 0), 0}, {path(1, 0), 2}, {path(1, 1), 3}, {path(0, 1), 3}, {path(1, 0, 2, -4), 3}, {path(1, 0, 2, -5, 0, 0), 3}, {path(2, -5), 3}, {path(0, 0), 0}, {path(1, 0, 3, -5), 3},
	} {
		if got, e := tell.Find(o, x.path, x.site); e != api.ErrNone || !same(got, api.VarState{}) {
			t.Errorf("Find of %v, %d: %v, %v", x.path, x.site, got, e)
		}
	}
	if _, e := tell.Find(api.Outcome{}, nil, 0); e != api.ErrNone {
		t.Errorf("Find of nothing: %v", e)
	}
	// An empty path is that of main, too; values are taken as they are.
	odd := api.VarState{Path: []api.Hop{}, Site: -7, Shape: api.Shape{Kind: 99, Name: "?", Kids: []api.Shape{{Name: "!"}}}, E: api.Elem{Kind: 77, N: 1, Keys: []int{5, 4}, Kids: []api.Elem{{N: 9}}}}
	o.Vars = append(o.Vars, odd, api.VarState{Site: -7})
	if got, e := tell.Find(o, nil, -7); e != api.OK || !same(got, odd) {
		t.Errorf("Find of the first one of two: %v, %v", got, e)
	}
	for _, v := range o.Vars[:6] {
		before := reflect.ValueOf(someOutcome(t))
		got, _ := tell.Find(o, v.Path, v.Site)
		spoil(reflect.ValueOf(&got).Elem())
		after := o
		after.Vars = o.Vars[:5]
		if !reflect.DeepEqual(before.Interface(), after) || !same(o.Vars[5], odd) {
			t.Fatalf("Find: its result shares memory with the outcome")
		}
	}
	apart(t, "Find", reflect.ValueOf(o.Vars[:5]), map[uintptr]bool{})
}

// P6.7, R8: variables with lists that are in themselves, or have one list twice.
func TestOdd(t *testing.T) {
	knot := func(n int) api.Outcome {
		e := api.Elem{Kind: api.ElemPair, Kids: []api.Elem{{N: 1}, {N: n}}}
		e.Kids[0].Kids = e.Kids
		s := api.Shape{Kind: api.ShapePair, Kids: []api.Shape{{}, {Name: "b"}}}
		s.Kids[0].Kids = s.Kids
		s.Kids[1].Kids = s.Kids[:1]
		return api.Outcome{Vars: []api.VarState{{Site: 1, E: e, Shape: s}}}
	}
	a := knot(3)
	v, e := tell.Find(a, nil, 1)
	if e != api.OK || v.E.Kids[1].N != 3 || v.E.Kids[0].Kids[0].Kids[0].Kids[1].N != 3 || v.Shape.Kids[1].Kids[0].Kids[1].Name != "b" {
		t.Errorf("Find: %v", e)
	}
	v.E.Kids[1].N, v.Shape.Kids[1].Name = 8, "c"
	if a.Vars[0].E.Kids[1].N != 3 || a.Vars[0].Shape.Kids[1].Name != "b" {
		t.Errorf("Find: its result shares memory with the outcome")
	}
	if !tell.Agree(a, knot(3)) || tell.Agree(a, knot(4)) || !tell.Agree(a, a) {
		t.Errorf("Agree of lists that are in themselves")
	}
	b := knot(3)
	b.Vars[0].Shape.Kids[1].Name = "c"
	if tell.Agree(a, b) {
		t.Errorf("Agree of shapes that are in themselves")
	}
	if is, e := tell.Below(nil, a, a); is || e != api.ErrForm {
		t.Errorf("Below of lists that are in themselves: %v, %v", is, e)
	}
	// One list twice: the result has two.
	keys := []int{1, 2}
	kids := []api.Elem{{Kind: api.ElemSet, Keys: keys}, {Kind: api.ElemSet, Keys: keys}}
	twice := api.Outcome{Vars: []api.VarState{{E: api.Elem{Kind: api.ElemPair, Kids: []api.Elem{{Kids: kids}, {Kids: kids}}}}}}
	v, e = tell.Find(twice, nil, 0)
	if e != api.OK || !same(v, twice.Vars[0]) {
		t.Errorf("Find: %v, %v", v, e)
	}
	apart(t, "Find", reflect.ValueOf(v), map[uintptr]bool{})
	deep := api.Elem{}
	shape := api.Shape{}
	for range 60000 {
		deep, shape = api.Elem{Kids: []api.Elem{deep}}, api.Shape{Kids: []api.Shape{shape}}
	}
	c := api.Outcome{Vars: []api.VarState{{E: deep, Shape: shape}}}
	if v, e := tell.Find(c, nil, 0); e != api.OK || !tell.Agree(api.Outcome{Vars: []api.VarState{v}}, c) {
		t.Errorf("Find of a deep one: %v", e)
	}
}

// changes are all ways in which an outcome becomes another one; up says of which of them it is below what comes out, and whether this is below it (down).
var changes = []struct {
	name     string
	do       func(o *api.Outcome)
	up, down bool
}{
	{"no change", func(o *api.Outcome) {}, true, true},
	{"other waits", func(o *api.Outcome) { o.Waits[0].Site++ }, true, true},
	{"other paths of waits", func(o *api.Outcome) { o.Waits[0].Path[0].Piece++ }, true, true},
	{"longer paths of waits", func(o *api.Outcome) { o.Waits[1].Path = path(0, 0) }, true, true},
	{"fewer waits", func(o *api.Outcome) { o.Waits = o.Waits[1:] }, true, true},
	{"other order of waits", func(o *api.Outcome) { slices.Reverse(o.Waits) }, true, true},
	{"other order of variables", func(o *api.Outcome) { slices.Reverse(o.Vars) }, true, true},
	{"other order of failures", func(o *api.Outcome) { slices.Sort(o.Fails) }, true, true},
	{"more tasks", func(o *api.Outcome) { o.Tasks++ }, true, false},
	{"more steps", func(o *api.Outcome) { o.Steps++ }, true, false},
	{"more tasks, fewer steps", func(o *api.Outcome) { o.Tasks++; o.Steps-- }, false, false},
	{"a new failure", func(o *api.Outcome) { o.Fails = append(o.Fails, 5) }, true, false},
	{"a failure once more", func(o *api.Outcome) { o.Fails = append(o.Fails, -1) }, true, false},
	{"another failure", func(o *api.Outcome) { o.Fails[0] = -1 }, false, false},
	{"no failures", func(o *api.Outcome) { o.Fails = nil }, false, true},
	{"a variable more", func(o *api.Outcome) {
		o.Vars = append(o.Vars, api.VarState{Site: 2, Shape: api.Shape{Kind: api.ShapeSet}})
	}, true, false},
	{"a variable less", func(o *api.Outcome) { o.Vars = o.Vars[1:] }, false, true},
	{"no variables", func(o *api.Outcome) { o.Vars = nil }, false, true},
	{"another site", func(o *api.Outcome) { o.Vars[0].Site++ }, false, false},
	{"another piece", func(o *api.Outcome) { o.Vars[0].Path[1].Piece++ }, false, false},
	{"another site in a path", func(o *api.Outcome) { o.Vars[0].Path[0].Site++ }, false, false},
	{"a longer path", func(o *api.Outcome) { o.Vars[1].Path = path(0, 0) }, false, false},
	{"another shape, with the same value", func(o *api.Outcome) { o.Vars[4].Shape.Kind = api.ShapeOnce }, false, false},
	{"another shape, with no value", func(o *api.Outcome) { o.Vars[2].Shape.Kind = api.ShapeMax }, false, false},
	{"another kid of a shape", func(o *api.Outcome) { o.Vars[0].Shape.Kids[1].Kids[0].Kind = api.ShapeOnce }, false, false},
	{"another table", func(o *api.Outcome) { o.Vars[1].Shape.Name = "m" }, false, false},
	{"a greater max", func(o *api.Outcome) { o.Vars[4].E.N++ }, true, false},
	{"a value where there was none", func(o *api.Outcome) { o.Vars[2].E = number(0) }, true, false},
	{"no value", func(o *api.Outcome) { o.Vars[3].E = api.Elem{} }, false, true},
	{"a key more", func(o *api.Outcome) { o.Vars[0].E.Kids[0].Keys = []int{1, 2, 3} }, true, false},
	{"another key", func(o *api.Outcome) { o.Vars[0].E.Kids[0].Keys = []int{1, 3} }, false, false},
	{"more at a key", func(o *api.Outcome) { o.Vars[0].E.Kids[1].Kids[0].N++ }, true, false},
	{"more in one place, less in another one", func(o *api.Outcome) { o.Vars[0].E.Kids[0] = set(1, 2, 3); o.Vars[4].E.N-- }, false, false},
	{"a greater element of a table", func(o *api.Outcome) { o.Vars[1].E.N = 3 }, true, false},
	{"another element of a table", func(o *api.Outcome) { o.Vars[1].E.N = 2 }, false, false},
}

// P6.7: Agree and Below of outcomes with one change.
func TestChanges(t *testing.T) {
	l := []api.Table{mustTable(t, "lattice l { a: b, c; b: d; c: d; d! }"), mustTable(t, "lattice m { a: b, c; b: d; c: d; d! }")}
	for i, x := range changes {
		a, b := someOutcome(t), someOutcome(t)
		x.do(&b)
		if tell.Agree(a, b) != (i == 0) || tell.Agree(b, a) != (i == 0) || !tell.Agree(b, b) {
			t.Errorf("Agree with %s", x.name)
		}
		up, e := tell.Below(l, a, b)
		down, f := tell.Below(l, b, a)
		if up != x.up || down != x.down || e != api.OK || f != api.OK {
			t.Errorf("Below with %s: %v, %v, %v, %v", x.name, up, down, e, f)
		}
		if !same(a, someOutcome(t)) {
			t.Errorf("with %s: an argument has changed", x.name)
		}
	}
}

// P6.7: nil lists and empty ones are the same.
func TestEmpty(t *testing.T) {
	a := api.Outcome{Vars: []api.VarState{{}}, Waits: []api.Wait{{}}}
	b := api.Outcome{
		Vars:  []api.VarState{{Path: []api.Hop{}, Shape: api.Shape{Kids: []api.Shape{}}, E: api.Elem{Keys: []int{}, Kids: []api.Elem{}}}},
		Fails: []int{}, Waits: []api.Wait{{Path: []api.Hop{}}},
	}
	if !tell.Agree(a, b) || !tell.Agree(b, a) {
		t.Errorf("Agree of nil and empty lists")
	}
	a.Vars[0].Shape.Kind, b.Vars[0].Shape.Kind = api.ShapeSet, api.ShapeSet
	if is, e := tell.Below([]api.Table{}, b, a); !is || e != api.OK {
		t.Errorf("Below of nil and empty lists: %v, %v", is, e)
	}
	if !tell.Agree(api.Outcome{}, api.Outcome{Vars: []api.VarState{}, Waits: []api.Wait{}}) {
		t.Errorf("Agree of nothing")
	}
	if is, e := tell.Below(nil, api.Outcome{}, api.Outcome{}); !is || e != api.OK {
		t.Errorf("Below of nothing: %v, %v", is, e)
	}
}

// P6.7: the errors of Below, of the one or the other outcome.
func TestBelowErrors(t *testing.T) {
	l := mustTable(t, "lattice l { a: b, c; b: d; c: d; d! }")
	m := mustTable(t, "lattice m { a: b; b }")
	odd := l
	odd.Above = [][]int{{1, 2}, nil, nil, nil}
	set41 := make([]int, 41)
	for i := range set41 {
		set41[i] = i
	}
	for i, x := range []struct {
		tables []api.Table
		do     func(o *api.Outcome)
		want   api.Errno
	}{
		{[]api.Table{l}, func(o *api.Outcome) {}, api.OK},
		{[]api.Table{m, l}, func(o *api.Outcome) {}, api.OK},
		// The shape has an error.
		{nil, func(o *api.Outcome) {}, api.ErrForm},
		{[]api.Table{m}, func(o *api.Outcome) {}, api.ErrForm},
		{[]api.Table{l, l}, func(o *api.Outcome) {}, api.ErrForm},
		{[]api.Table{odd}, func(o *api.Outcome) {}, api.ErrForm},
		{[]api.Table{l, {}}, func(o *api.Outcome) {}, api.ErrForm},
		{[]api.Table{l, m, m, m, m, m, m, m, m}, func(o *api.Outcome) {}, api.ErrForm},
		{[]api.Table{l}, func(o *api.Outcome) { o.Vars[2].Shape = api.Shape{} }, api.ErrForm},
		{[]api.Table{l}, func(o *api.Outcome) { o.Vars[2].Shape.Kids = []api.Shape{{Kind: api.ShapeSet}} }, api.ErrForm},
		{[]api.Table{l}, func(o *api.Outcome) { o.Vars[2].Shape = mustShape(t, "map(map(map(set)))") }, api.OK},
		{[]api.Table{l}, func(o *api.Outcome) {
			s := mustShape(t, "map(map(map(set)))")
			o.Vars[2].Shape = api.Shape{Kind: api.ShapeMap, Kids: []api.Shape{s}}
		}, api.ErrForm},
		// No element of the shape.
		{[]api.Table{l}, func(o *api.Outcome) { o.Vars[4].E.N = 1000000001 }, api.ErrForm},
		{[]api.Table{l}, func(o *api.Outcome) { o.Vars[3].E.N = 1 }, api.ErrForm},
		{[]api.Table{l}, func(o *api.Outcome) { o.Vars[0].E.Kids[0].Keys = []int{2, 1} }, api.ErrForm},
		{[]api.Table{l}, func(o *api.Outcome) { o.Vars[0].E.Kids[0].Keys = set41[:40] }, api.OK},
		{[]api.Table{l}, func(o *api.Outcome) { o.Vars[0].E.Kids[0].Keys = set41 }, api.ErrForm},
		{[]api.Table{l}, func(o *api.Outcome) { o.Vars[0].E.Kids[0] = on() }, api.ErrForm},
		{[]api.Table{l}, func(o *api.Outcome) { o.Vars[1].E.N = 4 }, api.ErrForm},
		{[]api.Table{l}, func(o *api.Outcome) { o.Vars[1].E.N = 0 }, api.ErrForm},
		{[]api.Table{l}, func(o *api.Outcome) { o.Vars[1].E.N = 3 }, api.OK},
		{[]api.Table{l}, func(o *api.Outcome) { o.Vars[2].E.Kind = api.ElemClash }, api.OK},
		// Two variables with the same path and site.
		{[]api.Table{l}, func(o *api.Outcome) { o.Vars = append(o.Vars, o.Vars[2]) }, api.ErrForm},
		{[]api.Table{l}, func(o *api.Outcome) { o.Vars[1].Site = 0 }, api.ErrForm},
		{[]api.Table{l}, func(o *api.Outcome) { o.Vars[0].Path[1].Piece = -6 }, api.ErrForm},
		{[]api.Table{l}, func(o *api.Outcome) { o.Vars[0].Path = o.Vars[0].Path[:1] }, api.ErrForm},
	} {
		a, b := someOutcome(t), someOutcome(t)
		x.do(&b)
		for _, pair := range [][2]api.Outcome{{a, b}, {b, a}, {b, b}, {{}, b}, {b, {}}} {
			is, e := tell.Below(x.tables, pair[0], pair[1])
			if e != x.want || is && e != api.OK {
				t.Errorf("Below, %d: %v, %v, and not %v", i, is, e, x.want)
			}
		}
	}
	// Where there are no variables tables do not matter.
	if is, e := tell.Below([]api.Table{odd}, api.Outcome{Tasks: 1}, api.Outcome{Tasks: 2}); !is || e != api.OK {
		t.Errorf("Below without variables: %v, %v", is, e)
	}
}

// P6.7: many variables, in any order.
func TestManyVars(t *testing.T) {
	r := rand.New(rand.NewSource(61))
	var a, b api.Outcome
	for i := range 3000 {
		v := api.VarState{Path: path(i%7, i%11, i%13, i/13), Site: i % 5, Shape: api.Shape{Kind: api.ShapeMax}, E: number(i)}
		b.Vars = append(b.Vars, v)
		if i%3 > 0 {
			v.E = number(i - i%2)
			a.Vars = append(a.Vars, v)
		}
	}
	r.Shuffle(len(a.Vars), func(i, j int) { a.Vars[i], a.Vars[j] = a.Vars[j], a.Vars[i] })
	r.Shuffle(len(b.Vars), func(i, j int) { b.Vars[i], b.Vars[j] = b.Vars[j], b.Vars[i] })
	if is, e := tell.Below(nil, a, b); !is || e != api.OK {
		t.Errorf("Below: %v, %v", is, e)
	}
	if is, e := tell.Below(nil, b, a); is || e != api.OK {
		t.Errorf("Below the other way round: %v, %v", is, e)
	}
	for i := 0; i < len(a.Vars); i += 97 {
		v := a.Vars[i]
		a.Vars[i].E.N += 2
		if is, e := tell.Below(nil, a, b); is || e != api.OK {
			t.Errorf("Below with more: %v, %v", is, e)
		}
		a.Vars[i] = v
		if got, e := tell.Find(b, v.Path, v.Site); e != api.OK || got.E.N/2 != v.E.N/2 {
			t.Errorf("Find: %v, %v", got, e)
		}
	}
}
