package tell_test

import (
	"fmt"
	"reflect"
	"slices"
	"testing"

	"dripstone/api"
	"dripstone/check"
	"dripstone/parse"
	"dripstone/tell"
)

// answer is what a function returned: its results, and its error.
type answer struct {
	got any
	e   api.Errno
}

// empty says whether all results are zero values.
func (x answer) empty() bool {
	v := reflect.ValueOf(x.got)
	return v.IsZero() || v.Kind() == reflect.Slice && v.Len() == 0
}

// answers returns what all functions with a tree return.
func answers(u api.Tree, in, picks []int, steps int) map[string]answer {
	out := map[string]answer{}
	add := func(name string, got any, e api.Errno) { out[name] = answer{got, e} }
	var e api.Errno
	var o api.Outcome
	o, e = tell.Run(u, in)
	add("Run", o, e)
	o, e = tell.Order(u, in, picks)
	add("Order", o, e)
	var h api.History
	h, e = tell.Log(u, in)
	add("Log", h, e)
	o, e = tell.After(u, in, steps)
	add("After", o, e)
	var s string
	s, e = tell.Tell(u, in)
	add("Tell", s, e)
	var l []int
	l, e = tell.Times(u, in)
	add("Times", l, e)
	var paths [][]api.Hop
	paths, e = tell.Paths(u, in)
	add("Paths", paths, e)
	return out
}

// mustFail tells if not all functions with a tree return an error, and nothing besides.
func mustFail(t *testing.T, u api.Tree, in, picks []int, steps int, want api.Errno) {
	t.Helper()
	for name, a := range answers(u, in, picks, steps) {
		if a.e != want || !a.empty() {
			t.Errorf("%s with %v, %v and %d: %v, and not %v", name, in, picks, steps, a, want)
		}
	}
}

// Those of parse.Check come first.
func TestTreeErrors(t *testing.T) {
	whole := mustParse(t, exampleText)
	odd := func(change func(l []api.TreeNode)) api.Tree {
		l := slices.Clone(whole.Nodes)
		change(l)
		return api.Tree{Nodes: l}
	}
	for _, u := range []api.Tree{
		{},
		{Nodes: make([]api.TreeNode, api.MaxNodes)},
		{Nodes: make([]api.TreeNode, api.MaxNodes+1)},
		{Nodes: whole.Nodes[1:]},
		{Nodes: whole.Nodes[:20]},
		odd(func(l []api.TreeNode) { l[0].Kind = 0 }),
		odd(func(l []api.TreeNode) { l[1].Size = -1 }),
		odd(func(l []api.TreeNode) { l[1].Size = 1 << 62 }),
		odd(func(l []api.TreeNode) { l[3].N = 1 }),
		odd(func(l []api.TreeNode) { l[5].Kind = 200 }),
		odd(func(l []api.TreeNode) { l[5].Text = "" }),
	} {
		want := parse.Check(u)
		if want == api.OK {
			t.Fatalf("the tree %v has its form", u)
		}
		for _, in := range [][]int{nil, {1}, {1 << 60}} {
			mustFail(t, u, in, []int{-1}, -1, want)
		}
	}
}

// Those of check.Program come next.
func TestProgramErrors(t *testing.T) {
	for s, want := range map[string]api.Errno{
		"":                                                            api.ErrNone,
		"task f(n: int) { }":                                          api.ErrNone,
		"task main(x: set) { }":                                       api.ErrType,
		"task main(n: int) { } use f();":                              api.ErrState,
		"task main() { put x 1; }":                                    api.ErrName,
		"task main() { } task main() { }":                             api.ErrTwice,
		"lattice l { a: a } task main() { }":                          api.ErrFalse,
		"task main(n: int) { put n 1; }":                              api.ErrType,
		"task main() { share x: map(map(map(map(set)))); }":           api.ErrLimit,
		"task main() { share x: set; freeze x as y; }":                api.ErrState,
		"task main() { share x: max; when x 1 { } or 2 { } }":         api.ErrFalse,
		"task main() { new x: set; spawn f(x); } task f(x: set) { } ": api.ErrState,
	} {
		u := mustParse(t, s)
		if _, e := check.Program(u); e != want {
			t.Fatalf("Program of %q: %v", s, e)
		}
		for _, in := range [][]int{nil, {1}, {1 << 60}} {
			mustFail(t, u, in, []int{-1}, -1, want)
		}
	}
}

// Then those of the inputs, and then those that are named for a function; those of the execution come last.
func TestInputErrors(t *testing.T) {
	u := mustParse(t, "task main(a: int, b: int) { spawn main(a, b); }")
	for _, x := range []struct {
		in   []int
		want api.Errno
	}{
		{nil, api.ErrArg}, {[]int{1}, api.ErrArg}, {[]int{1 << 60}, api.ErrArg}, {[]int{1, 2, 3}, api.ErrArg}, {make([]int, 1000), api.ErrArg},
		{[]int{1000000001, 0}, api.ErrRange}, {[]int{0, 1000000001}, api.ErrRange}, {[]int{-1000000001, 0}, api.ErrRange}, {[]int{5, -1 << 63}, api.ErrRange}, {[]int{1<<63 - 1, 1<<63 - 1}, api.ErrRange},
	} {
		mustFail(t, u, x.in, []int{-1}, -1, x.want)
		mustFail(t, u, x.in, make([]int, 5000), 1, x.want)
		mustFail(t, u, x.in, nil, 300, x.want)
	}
	for _, in := range [][]int{{0, 0}, {1000000000, -1000000000}} {
		mustFail(t, u, in, nil, 300, api.ErrLimit)
	}
	fails := mustParse(t, "task main(a: int, b: int) { share x: once; put x 1; put x 2; }")
	for _, x := range []struct {
		picks []int
		want  api.Errno
	}{
		{make([]int, 4000), api.ErrFail},
		{make([]int, 4001), api.ErrLimit},
		{append(make([]int, 4000), -1), api.ErrLimit},
		{append(make([]int, 3999), -1), api.ErrRange},
		{[]int{0, 3, -1}, api.ErrRange},
		{[]int{0, 3, 1<<63 - 1}, api.ErrFail},
		{[]int{-1 << 63}, api.ErrRange},
	} {
		if o, e := tell.Order(fails, []int{1, 2}, x.picks); e != x.want || !same(o, api.Outcome{}) {
			t.Errorf("Order with %d picks: %v, %v, and not %v", len(x.picks), o, e, x.want)
		}
	}
	for _, steps := range []int{-1, -4000, -1 << 63} {
		if o, e := tell.After(fails, []int{1, 2}, steps); e != api.ErrRange || !same(o, api.Outcome{}) {
			t.Errorf("After %d: %v, %v", steps, o, e)
		}
	}
	mustFail(t, fails, []int{1, 2}, nil, 300, api.ErrFail)
}

// memoryTexts are programs whose results have lists of all kinds.
func memoryTexts() []string {
	return []string{
		exampleText,
		lText + "task main(n: int) { new x: map(pair(set, map(set))); share z: set; all { spawn f(x, n); spawn f(x, n + 1); each x as k { share y: pair(pair(set, l), map(max)); put y pair(pair({k}, #b), [k] k); when y pair(pair({k}, ), ) { fail k; } } put x [7] pair({1, 2}, ); put x [7] pair(, [1] {5, 6}); spawn g(z); } freeze x as w; when z {1, 2} { } } task f(x: map(pair(set, map(set))), n: int) { put x [n] pair({n}, [n] {n}); } task g(z: set) { put z {1}; fail 5; }",
	}
}

// P2, R4: equal results for equal arguments, in new memory; arguments stay as they are, and so does what lies behind their ends.
func TestMemory(t *testing.T) {
	for _, s := range memoryTexts() {
		u := mustParse(t, s)
		room := append(slices.Clone(u.Nodes), api.TreeNode{Text: "behind"})
		numbers := []int{2, 77, 1, 0, 5, 3, 88}
		given := api.Tree{Nodes: room[:len(u.Nodes)]}
		for steps := range 30 {
			want := answers(u, []int{2}, []int{1, 0, 5, 3}, steps)
			for _, a := range answers(given, numbers[:1], numbers[2:6], steps) {
				spoil(reflect.ValueOf(a.got))
			}
			if got := answers(given, numbers[:1], numbers[2:6], steps); !reflect.DeepEqual(got, want) {
				t.Fatalf("of %q: %v, and then %v", s, want, got)
			}
			if !slices.Equal(given.Nodes, u.Nodes) || room[len(u.Nodes)].Text != "behind" || !slices.Equal(numbers, []int{2, 77, 1, 0, 5, 3, 88}) {
				t.Fatalf("of %q: the arguments have changed", s)
			}
		}
	}
}

// spoil changes all numbers, bools and texts in the lists of a result, and in the spare room of these.
func spoil(v reflect.Value) {
	switch v.Kind() {
	case reflect.Struct:
		for i := range v.NumField() {
			spoil(v.Field(i))
		}
	case reflect.Slice:
		v = v.Slice(0, v.Cap())
		for i := range v.Len() {
			spoil(v.Index(i))
		}
	case reflect.Int:
		if v.CanSet() {
			v.SetInt(v.Int() + 77)
		}
	case reflect.Uint8:
		if v.CanSet() {
			v.SetUint(v.Uint() + 7)
		}
	case reflect.Bool:
		if v.CanSet() {
			v.SetBool(!v.Bool())
		}
	case reflect.String:
		if v.CanSet() {
			v.SetString(v.String() + "x")
		}
	}
}

// No two lists of one result share memory.
func TestApart(t *testing.T) {
	for _, s := range memoryTexts() {
		u := mustParse(t, s)
		for name, a := range answers(u, []int{2}, []int{1, 0, 5, 3}, 20) {
			if a.e != api.OK {
				t.Fatalf("%s: %v", name, a.e)
			}
			apart(t, name, reflect.ValueOf(a.got), map[uintptr]bool{})
		}
	}
}

// apart goes through the lists of a result, and tells if some elements of them, or of their spare room, were met before.
func apart(t *testing.T, name string, v reflect.Value, met map[uintptr]bool) {
	t.Helper()
	switch v.Kind() {
	case reflect.Struct:
		for i := range v.NumField() {
			apart(t, name, v.Field(i), met)
		}
	case reflect.Slice:
		v = v.Slice(0, v.Cap())
		for i := range v.Len() {
			at := v.Index(i).Addr().Pointer()
			if v.Index(i).Type().Size() > 0 && met[at] {
				t.Errorf("%s: two lists of one result share memory", name)
			}
			met[at] = true
		}
		for i := range v.Len() {
			apart(t, name, v.Index(i), met)
		}
	}
}

// String lets an answer be read in what tests say.
func (x answer) String() string {
	return fmt.Sprint(x.got, " ", int(x.e))
}
