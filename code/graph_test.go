package code_test

import (
	"fmt"
	"math"
	"slices"
	"strings"
	"testing"

	"dripstone/api"
	"dripstone/code"
)

// callsText has segments that name each other, themselves, uses, several ones twice, and some where they are not reached.
const callsText = `shape set
use far
use near s0
segment main 2
  spawn c 7
  spawn a 3
  spawn c 5
  spawn far 9
  halt
segment a 2
  new r0 s0 own 4
  all 600
  spawn near 0 r0
  each r0 d 2
  done 600
  halt
segment b 0
  spawn b 1
  halt
segment c 0
  halt
segment d 1 int
  spawn e 0
  halt
  spawn c 1
  halt
segment e 0
  spawn a 10
  spawn main 3
  halt
segment alone 0
  spawn far 1
  spawn far 2
  halt
`

// mustList returns a list that a function returns without an error.
func mustList(t *testing.T, c api.Code, segment int, call func(c api.Code, segment int) ([]int, api.Errno)) []int {
	t.Helper()
	l, e := call(c, segment)
	if e != api.OK {
		t.Fatalf("of the segment %d: %v", segment, e)
	}
	return l
}

// P7.3: Sites, Calls and Reach.
func TestLists(t *testing.T) {
	c := mustParse(t, callsText)
	for n, x := range []struct{ sites, calls, reach []int }{
		{[]int{3, 5, 7, 9}, []int{1, 3}, []int{0, 1, 3, 4, 5}},
		{[]int{0, 2, 4, 600}, []int{4}, []int{0, 1, 3, 4, 5}},
		{[]int{1}, []int{2}, []int{2}},
		{nil, nil, nil},
		{[]int{0, 1}, []int{3, 5}, []int{0, 1, 3, 4, 5}},
		{[]int{3, 10}, []int{0, 1}, []int{0, 1, 3, 4, 5}},
		{[]int{1, 2}, nil, nil},
	} {
		sites, calls, reach := mustList(t, c, n, code.Sites), mustList(t, c, n, code.Calls), mustList(t, c, n, code.Reach)
		if !slices.Equal(sites, x.sites) || !slices.Equal(calls, x.calls) || !slices.Equal(reach, x.reach) {
			t.Errorf("segment %d: Sites: %v; Calls: %v; Reach: %v", n, sites, calls, reach)
		}
	}
	m := mustParse(t, exampleText)
	if sites, calls, reach := mustList(t, m, 0, code.Sites), mustList(t, m, 0, code.Calls), mustList(t, m, 0, code.Reach); !slices.Equal(sites, []int{0, 1, 2, 3, 4}) || !slices.Equal(calls, []int{1, 2}) || !slices.Equal(reach, []int{1, 2}) {
		t.Errorf("of the example: Sites: %v; Calls: %v; Reach: %v", sites, calls, reach)
	}
	w := mustParse(t, wholeText)
	if sites, calls := mustList(t, w, 0, code.Sites), mustList(t, w, 0, code.Calls); !slices.Equal(sites, []int{0, 1, 2, 3, 4, 5, 6, 7, 8, 9, 10, 11, 12}) || !slices.Equal(calls, []int{1}) {
		t.Errorf("of all operations: Sites: %v; Calls: %v", sites, calls)
	}
}

// P7.3, P7.4: one segment behind the other, as many as there may be.
func TestLongReach(t *testing.T) {
	s := many(60, func(i int) string {
		if i == 0 {
			return segmentText("f0 0", "spawn f59 0", "halt")
		}
		return segmentText(fmt.Sprintf("f%d 0", i), fmt.Sprintf("spawn f%d 0", i-1), "halt")
	})
	c := mustParse(t, s)
	for n := range 60 {
		reach := mustList(t, c, n, code.Reach)
		if len(reach) != 60 || reach[0] != 0 || reach[59] != 59 || !slices.IsSorted(reach) {
			t.Errorf("Reach of %d: %v", n, reach)
		}
	}
	if a, b, d, e := code.Counts(c); a != 60 || b != 120 || d != 60 || e != api.OK {
		t.Errorf("Counts: %d, %d, %d, %v", a, b, d, e)
	}
}

// P7.3 to P7.5: there is no such segment, or no such shape.
func TestNone(t *testing.T) {
	for _, x := range []struct {
		c api.Code
		n int
	}{
		{mustParse(t, exampleText), -1}, {mustParse(t, exampleText), 3}, {mustParse(t, exampleText), math.MaxInt}, {mustParse(t, exampleText), math.MinInt}, {api.Code{}, 0},
	} {
		for _, a := range answers(x.c, x.n, 0, x.n, "none") {
			want := api.ErrNone
			if a.name == "Check" || a.name == "Counts" || a.name == "Text" {
				want = api.OK
			}
			if a.e != want || want != api.OK && !a.zero {
				t.Errorf("%s of %d: %v, zero values: %v", a.name, x.n, a.e, a.zero)
			}
		}
	}
}

// testSteps compares the fewest and the most steps of a segment a with what must be.
func testSteps(t *testing.T, head string, least, most int, l ...string) {
	t.Helper()
	s := shapesText + segmentText(head, l...) + segmentText("t 1 s0", "halt") + segmentText("h 1 int", "halt")
	a, b, e := code.Steps(mustParse(t, s), 0)
	if a != least || b != most || e != api.OK {
		t.Errorf("Steps of %s: %s: %d, %d, %v, and not %d, %d", head, strings.Join(l, "; "), a, b, e, least, most)
	}
}

// P7.4: which instructions are steps.
func TestStepsOfInstructions(t *testing.T) {
	for line, want := range map[string]int{
		"int r8 1": 0, "arith r8 add r0 r0": 0, "on r8 s2": 0, "name r8 s4 1": 0, "point r8 s1 r0": 0, "set r8 s0 r0": 0, "key r8 s5 r0 r6": 0, "pair r8 s6 r7 -": 0, "join r8 s1 r6 r6": 0,
		"new r8 s0 own 9": 1, "new r8 s0 shared 9": 1, "put r1 r6": 1, "spawn t 9 r2": 1, "each r5 h 9": 1, "freeze r8 r5 9": 1, "size r8 r3": 0, "has r8 r3 r0": 0, "value r8 r4 r0": 0, "note": 1,
		"all 7; done 7": 1, "jump 5": 0, "zero r0 5": 0,
	} {
		l := []string{"new r5 s0 own 1", "point r6 s1 r0", "on r7 s2", "all 2"}
		l = append(l, strings.Split(line, "; ")...)
		// Of the instructions before and behind two are steps.
		testSteps(t, "a 9 int s1 s0 v0 v1", want+2, want+2, append(l, "done 2", "halt")...)
	}
	testSteps(t, "a 9 int", 0, 0, "halt")
	testSteps(t, "a 9 int", 1, 1, "fail r0")
	testSteps(t, "a 9 int", 1, 1, "all 1", "fail r0")
	testSteps(t, "a 9 s2", 2, 2, "on r1 s2", "when r0 1 r1>2", "note", "halt")
	testSteps(t, "a 9 s2", 1, 1, "on r1 s2", "when r0 1 r1>3", "note", "halt")
}

// P7.4: the fewest and the most steps of ways.
func TestSteps(t *testing.T) {
	testSteps(t, "a 2 int", 0, 1, "zero r0 2", "note", "halt")
	testSteps(t, "a 2 int", 0, 3, "zero r0 4", "note", "note", "note", "halt")
	testSteps(t, "a 2 int", 1, 2, "zero r0 4", "note", "note", "halt", "note", "halt")
	testSteps(t, "a 2 int", 1, 2, "zero r0 3", "note", "halt", "note", "fail r0")
	testSteps(t, "a 2 int", 1, 3, "zero r0 4", "note", "note", "jump 5", "note", "zero r0 7", "note", "halt")
	// What is not reached is on no way.
	testSteps(t, "a 2 int", 0, 0, "halt", "note", "halt")
	testSteps(t, "a 2 int", 1, 1, "jump 3", "note", "note", "note", "halt")
	// An OZero goes either way, also where the integer is known, and where both ways are the same.
	testSteps(t, "a 2", 0, 1, "int r0 0", "zero r0 3", "note", "halt")
	testSteps(t, "a 2", 0, 1, "int r0 1", "zero r0 3", "note", "halt")
	testSteps(t, "a 2 int", 1, 1, "zero r0 1", "note", "halt")
	// The cases of a when.
	testSteps(t, "a 9 s3", 2, 4, "int r1 1", "int r2 2", "int r3 3", "point r1 s3 r1", "point r2 s3 r2", "point r3 s3 r3", "when r0 0 r1>8 r2>9 r3>7", "note", "note", "note", "halt")
	testSteps(t, "a 9 s3", 1, 1, "int r1 1", "int r2 2", "point r1 s3 r1", "point r2 s3 r2", "when r0 0 r1>6 r2>6", "note", "halt")
	for n, want := range [][2]int{{7, 7}, {1, 1}, {0, 0}} {
		if a, b, e := code.Steps(mustParse(t, exampleText), n); a != want[0] || b != want[1] || e != api.OK {
			t.Errorf("Steps of the example, %d: %d, %d, %v", n, a, b, e)
		}
	}
}

// P1, P7.4: there can be very many ways: to go each one of them would not come to an end.
func TestManyWays(t *testing.T) {
	var l []string
	for i := range 740 {
		l = append(l, fmt.Sprintf("zero r0 %d", 2*i+2), "int r1 1")
	}
	c := mustParse(t, segmentText("a 60 int", append(l, "note", "halt")...))
	if a, b, e := code.Steps(c, 0); a != 1 || b != 1 || e != api.OK {
		t.Errorf("Steps: %d, %d, %v", a, b, e)
	}
	if s := sightText(c, mustSight(t, c, 0, 1481)); s != "r0 int" {
		t.Errorf("Sight: %s", s)
	}
	for i := range l {
		if i%2 == 1 {
			l[i] = "note"
		}
	}
	if a, b, e := code.Steps(mustParse(t, segmentText("a 60 int", append(l, "note", "halt")...)), 0); a != 1 || b != 741 || e != api.OK {
		t.Errorf("Steps: %d, %d, %v", a, b, e)
	}
}

// P7.4: Counts.
func TestCounts(t *testing.T) {
	for s, want := range map[string][3]int{
		"": {0, 0, 0}, exampleText: {3, 16, 5}, wholeText: {2, 42, 13}, callsText: {7, 24, 15}, shapesText: {0, 0, 0}, "use far int\n": {0, 0, 0},
		segmentText("a 0", "halt", "all 3", "done 9", "halt"): {1, 4, 1},
		segmentText("a 0", "halt", "done 9", "halt"):          {1, 3, 0},
	} {
		if a, b, d, e := code.Counts(mustParse(t, s)); a != want[0] || b != want[1] || d != want[2] || e != api.OK {
			t.Errorf("Counts: %d, %d, %d, %v of\n%s", a, b, d, e, s)
		}
	}
}

// P7.5: Lattice.
func TestLattice(t *testing.T) {
	two := "lattice l { a: b, c; b: d; c: d; d! }\nlattice m { o: p; p! }\nshape max\nshape map(pair(l, m))\n"
	for _, s := range []string{wholeText, two, exampleText, "shape once\n"} {
		c := mustParse(t, s)
		for n, shape := range c.Shapes {
			l, e := code.Lattice(c, n)
			if e != api.OK || !sameShape(l.Shape, shape) || !slices.EqualFunc(l.Tables, c.Tables, sameTable) {
				t.Errorf("Lattice of %d: %v, %v", n, l, e)
			}
		}
		for _, n := range []int{-1, len(c.Shapes), math.MaxInt, math.MinInt} {
			if l, e := code.Lattice(c, n); e != api.ErrNone || len(l.Tables)+len(l.Shape.Kids) > 0 || l.Shape.Kind != 0 || l.Shape.Name != "" {
				t.Errorf("Lattice of %d: %v, %v", n, l, e)
			}
		}
	}
}
