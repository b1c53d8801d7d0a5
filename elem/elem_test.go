package elem_test

import (
	"math"
	"math/rand"
	"slices"
	"testing"

	"dripstone/api"
	"dripstone/elem"
	"dripstone/order"
)

// P4.1, P4.15: elements of each shape, and what is none, by hand.
func TestCheck(t *testing.T) {
	wide := upTo(41)
	kids := slices.Repeat([]api.Elem{on()}, 41)
	for _, x := range []struct {
		shape   string
		in, out []api.Elem
	}{
		{"flag", []api.Elem{none(), on(), {Keys: []int{}, Kids: []api.Elem{}}, {Kind: api.ElemOn, Keys: []int{}}},
			[]api.Elem{{N: 1}, {Keys: []int{1}}, {Kids: []api.Elem{{}}}, {Kind: api.ElemOn, N: 1}, {Kind: api.ElemOn, Keys: []int{1}}, {Kind: api.ElemOn, Kids: []api.Elem{{}}}, whole(0), clash(), name(1), set(1), mapOf([]int{1}, on()), pairOf(on(), on()), {Kind: 8}, {Kind: 255}}},
		{"max", []api.Elem{none(), whole(0), whole(1000000000), whole(-1000000000)},
			[]api.Elem{whole(1000000001), whole(-1000000001), whole(math.MaxInt), whole(math.MinInt), on(), clash(), name(1), set(1), {N: 5}, {Kind: api.ElemInt, Keys: []int{1}}, {Kind: api.ElemInt, Kids: []api.Elem{{}}}}},
		{"once", []api.Elem{none(), whole(0), whole(1000000000), whole(-1000000000), clash()},
			[]api.Elem{whole(1000000001), whole(-1000000001), on(), name(1), {Kind: api.ElemClash, N: 1}, {Kind: api.ElemClash, Keys: []int{1}}, {Kind: api.ElemClash, Kids: []api.Elem{{}}}}},
		{"l", []api.Elem{none(), name(1), name(2), name(3)},
			[]api.Elem{name(0), name(4), name(-1), name(12), name(math.MaxInt), name(math.MinInt), whole(1), on(), {Kind: api.ElemName, N: 1, Keys: []int{1}}, {Kind: api.ElemName, N: 1, Kids: []api.Elem{{}}}}},
		{"one", []api.Elem{none()}, []api.Elem{name(0), name(1)}},
		{"set", []api.Elem{none(), set(0), set(-1000000000, 1000000000), set(upTo(40)...)},
			[]api.Elem{set(), set(1, 1), set(2, 1), set(1, 3, 2), set(1000000001), set(-1000000001), set(0, math.MaxInt), set(math.MinInt, 0), set(wide...), {Kind: api.ElemSet, N: 1, Keys: []int{1}}, {Kind: api.ElemSet, Keys: []int{1}, Kids: []api.Elem{{}}}, {Kind: api.ElemSet, Kids: []api.Elem{{}}}, mapOf([]int{1}, on())}},
		{"map(flag)", []api.Elem{none(), mapOf([]int{0}, on()), mapOf([]int{-1000000000, 1000000000}, on(), on()), mapOf(wide[:40], kids[:40]...)},
			[]api.Elem{mapOf(nil), mapOf([]int{1}), mapOf(nil, on()), mapOf([]int{1}, none()), mapOf([]int{1}, on(), on()), mapOf([]int{1, 2}, on()), mapOf([]int{1, 2}, on(), none()), mapOf([]int{1, 1}, on(), on()), mapOf([]int{2, 1}, on(), on()), mapOf([]int{1000000001}, on()), mapOf([]int{-1000000001}, on()), mapOf(wide, kids...), mapOf([]int{1}, whole(1)), mapOf([]int{1}, api.Elem{Kind: api.ElemOn, N: 1}), {Kind: api.ElemMap, N: 1, Keys: []int{1}, Kids: []api.Elem{on()}}, set(1), pairOf(on(), none())}},
		{"pair(flag, max)", []api.Elem{none(), pairOf(on(), none()), pairOf(none(), whole(1)), pairOf(on(), whole(1)), {Kind: api.ElemPair, Keys: []int{}, Kids: []api.Elem{on(), none()}}},
			[]api.Elem{pairOf(), pairOf(on()), pairOf(none(), none()), pairOf(on(), none(), none()), pairOf(on(), on()), pairOf(whole(1), whole(1)), pairOf(whole(1), on()), pairOf(api.Elem{N: 1}, whole(1)), {Kind: api.ElemPair, N: 1, Kids: []api.Elem{on(), none()}}, {Kind: api.ElemPair, Keys: []int{1, 2}, Kids: []api.Elem{on(), none()}}, mapOf([]int{0, 1}, on(), whole(1))}},
		{"map(map(map(set)))", []api.Elem{mapOf([]int{1}, mapOf([]int{1}, mapOf([]int{1}, set(1))))},
			[]api.Elem{mapOf([]int{1}, mapOf([]int{1}, mapOf([]int{1}, set()))), mapOf([]int{1}, mapOf([]int{1}, mapOf([]int{1}, none()))), mapOf([]int{1}, mapOf([]int{1}, mapOf([]int{1}, set(2, 1)))), mapOf([]int{1}, mapOf([]int{1}, set(1))), mapOf([]int{1}, mapOf([]int{1}, mapOf([]int{1}, mapOf([]int{1}, set(1)))))}},
		{"pair(l, c)", []api.Elem{pairOf(name(3), name(1)), pairOf(name(1), name(3))}, []api.Elem{pairOf(name(4), name(1)), pairOf(name(1), name(4)), pairOf(name(0), name(1))}},
	} {
		u := latticeOf(t, x.shape)
		for _, e := range x.in {
			if err := elem.Check(u, e); err != api.OK {
				t.Errorf("Check, %s, %v: %v", x.shape, e, err)
			}
		}
		for _, e := range x.out {
			if err := elem.Check(u, e); err != api.ErrArg {
				t.Errorf("Check, %s, %v: %v, and not ErrArg", x.shape, e, err)
			}
		}
	}
}

// spoil changes something in an element, or in one of its kids.
func spoil(r *rand.Rand, e *api.Elem) {
	if len(e.Kids) > 0 && r.Intn(3) > 0 {
		spoil(r, &e.Kids[r.Intn(len(e.Kids))])
		return
	}
	switch r.Intn(7) {
	case 0:
		e.Kind = uint8(r.Intn(9))
	case 1:
		e.N += r.Intn(9) - 4
	case 2:
		e.N = []int{api.MaxNumber, -api.MaxNumber, api.MaxNumber + 1, -api.MaxNumber - 1}[r.Intn(4)]
	case 3:
		e.Keys = append(e.Keys, r.Intn(9)-4)
	case 4:
		if len(e.Keys) > 0 {
			e.Keys[r.Intn(len(e.Keys))] = r.Intn(9) - 4
		}
	case 5:
		e.Kids = append(e.Kids, []api.Elem{none(), on(), whole(1), name(1)}[r.Intn(4)])
	case 6:
		if len(e.Kids) > 0 {
			e.Kids = e.Kids[:len(e.Kids)-1]
		}
	}
}

// P4.1: elements in which something was changed, and elements of other lattices.
func TestCheckSpoilt(t *testing.T) {
	r := rand.New(rand.NewSource(1))
	met := map[api.Errno]int{}
	check := func(u api.Lattice, x api.Elem) {
		want := api.OK
		if !plainHolds(u, x) {
			want = api.ErrArg
		}
		met[want]++
		if e := elem.Check(u, x); e != want {
			t.Fatalf("Check, %v, %v: %v, and not %v", u.Shape, x, e, want)
		}
	}
	elemsOf(t, 2, func(u api.Lattice, x api.Elem) {
		for range 10 {
			y := copyElem(x)
			for range r.Intn(3) {
				spoil(r, &y)
			}
			check(u, y)
		}
		check(latticeOf(t, great()[r.Intn(len(great()))]), x)
	})
	if met[api.OK] < 1000 || met[api.ErrArg] < 1000 {
		t.Errorf("errors: %v", met)
	}
}

// call is a function with a lattice and elements: its error, and whether all its other results are zero values.
type call struct {
	name  string
	elems int // how many elements it has at least
	do    func(u api.Lattice, l ...api.Elem) (api.Errno, bool)
}

// calls returns all functions with a lattice; those without elements get a text, or bytes, that are those of none.
func calls() []call {
	isZero := func(x api.Elem) bool { return same(x, none()) }
	return []call{
		{"Check", 1, func(u api.Lattice, l ...api.Elem) (api.Errno, bool) { return elem.Check(u, l[0]), true }},
		{"Join", 2, func(u api.Lattice, l ...api.Elem) (api.Errno, bool) {
			x, e := elem.Join(u, l[0], l[1])
			return e, isZero(x)
		}},
		{"JoinAll", 0, func(u api.Lattice, l ...api.Elem) (api.Errno, bool) {
			x, e := elem.JoinAll(u, l)
			return e, isZero(x)
		}},
		{"Below", 2, func(u api.Lattice, l ...api.Elem) (api.Errno, bool) {
			x, e := elem.Below(u, l[0], l[1])
			return e, !x
		}},
		{"IsWrong", 1, func(u api.Lattice, l ...api.Elem) (api.Errno, bool) {
			x, e := elem.IsWrong(u, l[0])
			return e, !x
		}},
		{"Excludes", 2, func(u api.Lattice, l ...api.Elem) (api.Errno, bool) {
			x, e := elem.Excludes(u, l[0], l[1])
			return e, !x
		}},
		{"Pieces", 1, func(u api.Lattice, l ...api.Elem) (api.Errno, bool) {
			x, e := elem.Pieces(u, l[0])
			return e, len(x) == 0
		}},
		{"Delta", 2, func(u api.Lattice, l ...api.Elem) (api.Errno, bool) {
			x, e := elem.Delta(u, l[0], l[1])
			return e, isZero(x)
		}},
		{"Text", 1, func(u api.Lattice, l ...api.Elem) (api.Errno, bool) {
			x, e := elem.Text(u, l[0])
			return e, x == ""
		}},
		{"Bytes", 1, func(u api.Lattice, l ...api.Elem) (api.Errno, bool) {
			x, e := elem.Bytes(u, l[0])
			return e, len(x) == 0
		}},
		{"Parse", 0, func(u api.Lattice, l ...api.Elem) (api.Errno, bool) {
			x, e := elem.Parse(u, string(make([]byte, 2501)))
			return e, isZero(x)
		}},
		{"Read", 0, func(u api.Lattice, l ...api.Elem) (api.Errno, bool) {
			x, e := elem.Read(u, make([]byte, 20001))
			return e, isZero(x)
		}},
	}
}

// P4.1 to P4.7: the errors of a lattice come first, whatever the other arguments are.
func TestLatticeErrors(t *testing.T) {
	good := latticeOf(t, "set")
	l := good.Tables[0]
	bad := api.Table{Name: "bad", Elems: []string{"a", "b", "c"}, Above: [][]int{{1, 2}, nil, nil}, Wrong: make([]bool, 3)}
	formless := api.Table{Name: "bad"}
	deep := api.Shape{Kind: api.ShapeFlag}
	for range 4 {
		deep = api.Shape{Kind: api.ShapeMap, Kids: []api.Shape{deep}}
	}
	endless := api.Shape{Kind: api.ShapeMap, Kids: make([]api.Shape, 1)}
	endless.Kids[0] = endless
	for _, x := range []struct {
		u api.Lattice
		e api.Errno
	}{
		{api.Lattice{Shape: deep}, api.ErrLimit}, {api.Lattice{Shape: endless}, api.ErrLimit}, {api.Lattice{Tables: make([]api.Table, 9), Shape: good.Shape}, api.ErrLimit},
		{api.Lattice{}, api.ErrForm}, {api.Lattice{Tables: []api.Table{formless}, Shape: good.Shape}, api.ErrForm}, {api.Lattice{Shape: api.Shape{Kind: api.ShapeMap}}, api.ErrForm},
		{api.Lattice{Tables: []api.Table{l, l}, Shape: good.Shape}, api.ErrTwice}, {api.Lattice{Tables: []api.Table{l, bad}, Shape: good.Shape}, api.ErrFalse},
		{api.Lattice{Shape: api.Shape{Kind: api.ShapeNamed, Name: "l"}}, api.ErrNone}, {api.Lattice{Tables: []api.Table{l}, Shape: api.Shape{Kind: api.ShapeNamed, Name: "x"}}, api.ErrNone},
	} {
		if e := order.CheckShape(x.u.Tables, x.u.Shape); e != x.e {
			t.Fatalf("order.CheckShape of %v: %v", x.u, e)
		}
		for _, c := range calls() {
			for _, args := range [][]api.Elem{{none(), none()}, {{Kind: 9}, {Kind: 9}}} {
				if e, zero := c.do(x.u, args...); e != x.e || !zero {
					t.Errorf("%s of a lattice with the error %v: %v, %v", c.name, x.e, e, zero)
				}
			}
		}
	}
}

// P4.1 to P4.7: an element that is none of the lattice, whichever it is, before what is too much.
func TestElemErrors(t *testing.T) {
	u := latticeOf(t, "map(set)")
	good, more := mapOf([]int{1}, set(upTo(40)...)), mapOf([]int{1}, set(99))
	odd := mapOf([]int{1}, set())
	for _, c := range calls() {
		if c.name == "Parse" || c.name == "Read" {
			if e, zero := c.do(u); e != api.ErrLimit || !zero {
				t.Errorf("%s of too much: %v, %v", c.name, e, zero)
			}
			continue
		}
		for _, args := range [][]api.Elem{{odd, good, more}, {good, odd, more}, {more, odd, odd}, {odd, odd, odd}, {good, more, odd}} {
			want := api.OK
			used := args[:c.elems]
			if c.name == "JoinAll" {
				used = args
			}
			if slices.ContainsFunc(used, func(x api.Elem) bool { return same(x, odd) }) {
				want = api.ErrArg
			} else if c.name == "Join" {
				want = api.ErrLimit
			}
			if e, zero := c.do(u, used...); e != want || e != api.OK && !zero {
				t.Errorf("%s of %v: %v, %v", c.name, used, e, zero)
			}
		}
	}
}

// P4.2 to P4.5: joins by hand.
func TestJoin(t *testing.T) {
	for _, x := range []struct {
		shape        string
		a, b, join   api.Elem
		below, wrong bool
	}{
		{"flag", none(), none(), none(), true, false}, {"flag", none(), on(), on(), true, false}, {"flag", on(), none(), on(), false, false}, {"flag", on(), on(), on(), true, false},
		{"max", whole(3), whole(-7), whole(3), false, false}, {"max", whole(-7), whole(3), whole(3), true, false}, {"max", none(), whole(-1000000000), whole(-1000000000), true, false}, {"max", whole(-1000000000), none(), whole(-1000000000), false, false}, {"max", whole(0), whole(0), whole(0), true, false},
		{"once", whole(1), whole(1), whole(1), true, false}, {"once", whole(1), whole(2), clash(), false, true}, {"once", whole(0), clash(), clash(), true, true}, {"once", clash(), whole(0), clash(), false, true}, {"once", clash(), clash(), clash(), true, true}, {"once", clash(), none(), clash(), false, true}, {"once", none(), whole(0), whole(0), true, false},
		{"l", name(1), name(2), name(3), false, true}, {"l", name(1), name(3), name(3), true, true}, {"l", name(1), name(1), name(1), true, false}, {"l", none(), name(2), name(2), true, false},
		{"cube", name(1), name(2), name(4), false, false}, {"cube", name(1), name(6), name(7), false, true}, {"cube", name(2), name(3), name(6), false, true},
		{"set", set(1, 3), set(2, 3), set(1, 2, 3), false, false}, {"set", set(3), set(2, 3), set(2, 3), true, false}, {"set", none(), set(2), set(2), true, false},
		{"map(once)", mapOf([]int{1, 3}, whole(2), whole(4)), mapOf([]int{3}, whole(5)), mapOf([]int{1, 3}, whole(2), clash()), false, true},
		{"map(set)", mapOf([]int{1}, set(2)), mapOf([]int{1, 4}, set(3), set(5)), mapOf([]int{1, 4}, set(2, 3), set(5)), false, false},
		{"map(max)", mapOf([]int{5}, whole(2)), mapOf([]int{-5, 5}, whole(0), whole(3)), mapOf([]int{-5, 5}, whole(0), whole(3)), true, false},
		{"pair(flag, max)", pairOf(on(), none()), pairOf(none(), whole(2)), pairOf(on(), whole(2)), false, false}, {"pair(flag, max)", pairOf(on(), none()), pairOf(on(), whole(-7)), pairOf(on(), whole(-7)), true, false},
		{"pair(l, once)", pairOf(name(1), whole(1)), pairOf(name(2), whole(1)), pairOf(name(3), whole(1)), false, true}, {"pair(l, once)", pairOf(name(1), whole(1)), pairOf(name(1), whole(2)), pairOf(name(1), clash()), false, true},
	} {
		u := latticeOf(t, x.shape)
		if j, e := elem.Join(u, x.a, x.b); !same(j, x.join) || e != api.OK {
			t.Errorf("Join, %s, of %v, %v: %v, %v", x.shape, x.a, x.b, j, e)
		}
		if is := mustBelow(t, u, x.a, x.b); is != x.below {
			t.Errorf("Below, %s, of %v, %v: %v", x.shape, x.a, x.b, is)
		}
		if is := mustExclude(t, u, x.a, x.b); is != x.wrong {
			t.Errorf("Excludes, %s, of %v, %v: %v", x.shape, x.a, x.b, is)
		}
		if is, e := elem.IsWrong(u, x.join); is != x.wrong || e != api.OK {
			t.Errorf("IsWrong, %s, of %v: %v, %v", x.shape, x.join, is, e)
		}
	}
	for i, x := range []struct {
		l    []api.Elem
		want api.Elem
	}{
		{nil, none()}, {[]api.Elem{}, none()}, {[]api.Elem{none(), none()}, none()}, {[]api.Elem{set(3)}, set(3)}, {[]api.Elem{set(3), none(), set(1), set(2), set(1, 3)}, set(1, 2, 3)},
	} {
		if j := mustJoin(t, latticeOf(t, "set"), x.l...); !same(j, x.want) {
			t.Errorf("JoinAll %d: %v", i, j)
		}
	}
}

// P4.2 to P4.5: joins, what is below, wrong, in pieces, or more, of many elements, as the chapter says it.
func TestAllPairs(t *testing.T) {
	met := map[string]int{}
	note := func(what string, is bool) {
		if is {
			met[what]++
		}
	}
	pairsOf(t, 3, func(u api.Lattice, a, b api.Elem) {
		j := plainJoin(u, a, b)
		got, e := elem.Join(u, a, b)
		if !same(got, j) || e != api.OK {
			t.Fatalf("Join, %v, of %v, %v: %v, %v", u.Shape, a, b, got, e)
		}
		below, wrong := mustBelow(t, u, a, b), mustExclude(t, u, a, b)
		if below != plainBelow(u, a, b) || wrong != plainWrong(u, j) {
			t.Fatalf("%v, Below and Excludes of %v, %v: %v, %v", u.Shape, a, b, below, wrong)
		}
		if is, e := elem.IsWrong(u, b); is != plainWrong(u, b) || e != api.OK {
			t.Fatalf("IsWrong, %v, of %v: %v, %v", u.Shape, b, is, e)
		}
		if d, e := elem.Delta(u, a, b); !same(d, plainDelta(u, a, b)) || e != api.OK {
			t.Fatalf("Delta, %v, of %v, %v: %v, %v", u.Shape, a, b, d, e)
		}
		note("below", below && !same(a, b))
		note("apart", !below && !wrong)
		note("wrong", wrong)
	})
	elemsOf(t, 4, func(u api.Lattice, x api.Elem) {
		l, want := mustPieces(t, u, x), plainPieces(u, x)
		if !slices.EqualFunc(l, want, same) {
			t.Fatalf("Pieces, %v, of %v: %v", u.Shape, x, l)
		}
		note("several pieces", len(l) > 1)
	})
	for _, what := range []string{"below", "apart", "wrong", "several pieces"} {
		if met[what] < 200 {
			t.Errorf("%s: %d times", what, met[what])
		}
	}
}

// P4.5: pieces and deltas by hand.
func TestPieces(t *testing.T) {
	for _, x := range []struct {
		shape string
		e     api.Elem
		want  []api.Elem
	}{
		{"flag", none(), nil}, {"flag", on(), []api.Elem{on()}}, {"max", whole(-5), []api.Elem{whole(-5)}}, {"once", whole(5), []api.Elem{whole(5)}}, {"once", clash(), []api.Elem{clash()}},
		{"l", name(3), []api.Elem{name(1), name(2)}}, {"l", name(2), []api.Elem{name(2)}}, {"c", name(3), []api.Elem{name(3)}}, {"cube", name(7), []api.Elem{name(1), name(2), name(3)}}, {"m", name(4), []api.Elem{name(1), name(2), name(3)}},
		{"set", set(-2, 9), []api.Elem{set(-2), set(9)}}, {"map(set)", mapOf([]int{-1, 4}, set(3, 5), set(2)), []api.Elem{mapOf([]int{-1}, set(3)), mapOf([]int{-1}, set(5)), mapOf([]int{4}, set(2))}},
		{"pair(set, l)", pairOf(set(1, 2), name(3)), []api.Elem{pairOf(set(1), none()), pairOf(set(2), none()), pairOf(none(), name(1)), pairOf(none(), name(2))}},
		{"pair(set, l)", pairOf(none(), name(1)), []api.Elem{pairOf(none(), name(1))}},
	} {
		if l := mustPieces(t, latticeOf(t, x.shape), x.e); !slices.EqualFunc(l, x.want, same) {
			t.Errorf("Pieces, %s, of %v: %v", x.shape, x.e, l)
		}
	}
	for _, x := range []struct {
		shape      string
		a, b, more api.Elem
	}{
		{"flag", none(), on(), on()}, {"flag", on(), on(), none()}, {"max", whole(3), whole(5), whole(5)}, {"max", whole(5), whole(3), none()}, {"once", whole(1), whole(2), whole(2)}, {"once", whole(1), clash(), clash()}, {"once", clash(), whole(1), none()},
		{"l", name(1), name(3), name(2)}, {"l", none(), name(3), name(3)}, {"l", name(3), name(1), none()}, {"cube", name(1), name(7), name(6)}, {"cube", name(4), name(5), name(3)}, {"m", name(1), name(4), name(4)}, {"c", name(1), name(3), name(3)},
		{"set", set(1, 2), set(2, 3, 4), set(3, 4)}, {"set", set(1, 2), set(2), none()}, {"map(set)", mapOf([]int{1}, set(2)), mapOf([]int{1, 5}, set(2, 3), set(2)), mapOf([]int{1, 5}, set(3), set(2))}, {"map(set)", mapOf([]int{1, 5}, set(2), set(1)), mapOf([]int{5}, set(1)), none()},
		{"pair(flag, max)", pairOf(on(), whole(1)), pairOf(on(), whole(2)), pairOf(none(), whole(2))}, {"pair(flag, max)", pairOf(none(), whole(2)), pairOf(on(), whole(1)), pairOf(on(), none())}, {"pair(flag, max)", pairOf(on(), whole(1)), pairOf(on(), none()), none()},
	} {
		if d, e := elem.Delta(latticeOf(t, x.shape), x.a, x.b); !same(d, x.more) || e != api.OK {
			t.Errorf("Delta, %s, of %v, %v: %v, %v", x.shape, x.a, x.b, d, e)
		}
	}
}

// P4.2, P4.4: keys up to the limit, and above it, wherever they are.
func TestJoinLimits(t *testing.T) {
	full, less, more := set(upTo(40)...), set(upTo(39)...), set(39)
	over := set(99)
	inMap := func(x api.Elem) api.Elem { return mapOf([]int{7}, x) }
	wide := func(keys ...int) api.Elem { return mapOf(keys, slices.Repeat([]api.Elem{on()}, len(keys))...) }
	for i, x := range []struct {
		shape string
		l     []api.Elem
		e     api.Errno
	}{
		{"set", []api.Elem{less, more}, api.OK}, {"set", []api.Elem{full, more}, api.OK}, {"set", []api.Elem{full, full}, api.OK}, {"set", []api.Elem{full, over}, api.ErrLimit}, {"set", []api.Elem{over, full}, api.ErrLimit}, {"set", []api.Elem{less, over}, api.OK}, {"set", []api.Elem{full, set(100, 101, 102)}, api.ErrLimit}, {"set", []api.Elem{set(upTo(40)[:20]...), set(upTo(40)[20:]...)}, api.OK},
		{"set", []api.Elem{less, none(), over, full}, api.ErrLimit}, {"set", []api.Elem{over, over, more, set(upTo(38)...)}, api.OK}, {"set", []api.Elem{set(1), set(2), full, over}, api.ErrLimit}, {"set", []api.Elem{full}, api.OK},
		{"map(flag)", []api.Elem{wide(upTo(39)...), wide(39)}, api.OK}, {"map(flag)", []api.Elem{wide(upTo(40)...), wide(40)}, api.ErrLimit}, {"map(flag)", []api.Elem{wide(upTo(40)...), wide(-1)}, api.ErrLimit}, {"map(flag)", []api.Elem{wide(upTo(40)...), wide(0, 39)}, api.OK},
		{"map(set)", []api.Elem{inMap(full), inMap(over)}, api.ErrLimit}, {"map(set)", []api.Elem{inMap(less), inMap(over)}, api.OK}, {"map(set)", []api.Elem{inMap(full), mapOf([]int{8}, over)}, api.OK},
		{"pair(set, set)", []api.Elem{pairOf(full, none()), pairOf(none(), over)}, api.OK}, {"pair(set, set)", []api.Elem{pairOf(full, none()), pairOf(over, none())}, api.ErrLimit}, {"pair(set, set)", []api.Elem{pairOf(none(), full), pairOf(on(), over)}, api.ErrArg}, {"pair(set, set)", []api.Elem{pairOf(none(), full), pairOf(set(1), over)}, api.ErrLimit},
		{"map(map(map(set)))", []api.Elem{inMap(inMap(inMap(full))), inMap(inMap(inMap(over)))}, api.ErrLimit}, {"map(map(map(set)))", []api.Elem{inMap(inMap(inMap(full))), inMap(inMap(mapOf([]int{8}, over)))}, api.OK},
	} {
		u := latticeOf(t, x.shape)
		j, e := elem.JoinAll(u, x.l)
		if e != x.e || e != api.OK && !same(j, none()) {
			t.Errorf("JoinAll %d: %v, %v", i, j, e)
		}
		if len(x.l) != 2 {
			continue
		}
		for _, l := range [][]api.Elem{x.l, {x.l[1], x.l[0]}} {
			again, e := elem.Join(u, l[0], l[1])
			if e != x.e || !same(again, j) {
				t.Errorf("Join %d: %v, %v", i, again, e)
			}
			if x.e != api.ErrLimit {
				continue
			}
			if is := mustBelow(t, u, l[0], l[1]); is {
				t.Errorf("Below %d: %v", i, is)
			}
			if is := mustExclude(t, u, l[0], l[1]); is {
				t.Errorf("Excludes %d: %v", i, is)
			}
			if d, e := elem.Delta(u, l[0], l[1]); e != api.OK || !same(d, plainDelta(u, l[0], l[1])) {
				t.Errorf("Delta %d: %v, %v", i, d, e)
			}
		}
	}
	left, right := mapOf(upTo(40)), mapOf(upTo(80)[39:79])
	for i := range 40 {
		left.Kids, right.Kids = append(left.Kids, whole(i)), append(right.Kids, whole(i))
	}
	if u := latticeOf(t, "map(once)"); !mustExclude(t, u, left, right) || mustExclude(t, u, left, mapOf(upTo(80)[40:], right.Kids...)) {
		t.Errorf("Excludes of maps with more than %d keys together", api.MaxKeys)
	}
}
