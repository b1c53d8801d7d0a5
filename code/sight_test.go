package code_test

import (
	"fmt"
	"math"
	"strings"
	"testing"

	"dripstone/api"
	"dripstone/code"
)

// P7.2: what is known before each instruction of the chapter's example.
func TestSightOfExample(t *testing.T) {
	c := mustParse(t, exampleText)
	for segment, want := range [][]string{
		{
			"",
			"r0 own s0 of 0",
			"r0 own s0 of 0; pool 1",
			"r0 own s0 of 0; pool 1; passed 0 in 1",
			"r0 own s0 of 0; pool 1; passed 0 in 1",
			"r0 own s0 of 0",
			"r1 value s0",
			"r1 value s0; r2 int",
			"r1 value s0; r2 int",
		},
		{"r0 shared s0", "r0 shared s0; r1 int 7", "r0 shared s0; r1 elem s0 {7}", "r0 shared s0; r1 elem s0 {7}"},
		{"r0 shared s0; r1 int", "r0 shared s0; r1 int; r2 int 1", "r0 shared s0; r1 int; r2 int 1"},
	} {
		for at, s := range want {
			x := mustSight(t, c, segment, at)
			if got := sightText(c, x); got != s || len(x.Regs) != c.Segments[segment].Regs {
				t.Errorf("Sight of %d, %d: %s, and not %s", segment, at, got, s)
			}
		}
	}
}

// P7.2: there is such a segment, and such an instruction.
func TestSightOfNothing(t *testing.T) {
	c := mustParse(t, exampleText)
	for _, n := range [][2]int{{-1, 0}, {3, 0}, {math.MaxInt, 0}, {math.MinInt, 0}, {0, -1}, {0, 9}, {1, 4}, {2, 3}, {0, math.MaxInt}, {0, math.MinInt}, {3, 99}} {
		if x, e := code.Sight(c, n[0], n[1]); e != api.ErrNone || x.Reached || len(x.Regs)+len(x.Pools)+len(x.Passed) > 0 {
			t.Errorf("Sight of %d, %d: %v, %v", n[0], n[1], x, e)
		}
	}
}

// sightCase is what is known before an instruction of a segment.
type sightCase struct {
	at   int
	want string
}

// testSights compares what is known before instructions of a segment a, with the shapes of shapesText, with what must be.
func testSights(t *testing.T, head, instructions string, cases ...sightCase) {
	t.Helper()
	s := shapesText + "use far v1 s3\n" + segmentText("t 1 s0", "halt") + segmentText("h 1 int", "halt") + segmentText("k 2 s0 int", "halt") + segmentText(head, strings.Split(instructions, "; ")...)
	c := mustParse(t, s)
	for _, x := range cases {
		if got := sightText(c, mustSight(t, c, 3, x.at)); got != x.want {
			t.Errorf("%s: %s: Sight of %d: %s, and not %s", head, instructions, x.at, got, x.want)
		}
	}
}

// P7.2: params hold what they say; all other registers nothing.
func TestSightOfParams(t *testing.T) {
	testSights(t, "a 10 int s0 v0 s4 v7 int", "note; halt",
		sightCase{0, "r0 int; r1 shared s0; r2 value s0; r3 shared s4; r4 value s7; r5 int"},
		sightCase{1, "r0 int; r1 shared s0; r2 value s0; r3 shared s4; r4 value s7; r5 int"},
	)
	testSights(t, "a 0", "note; halt", sightCase{0, ""}, sightCase{1, ""})
}

// P7.2: what each instruction changes.
func TestSightOfInstructions(t *testing.T) {
	for _, x := range []struct{ head, line, want string }{
		{"a 3 int", "int r1 -5", "r0 int; r1 int -5"},
		{"a 3 int", "int r0 0", "r0 int 0"},
		{"a 3 int", "arith r1 add r0 r0", "r0 int; r1 int"},
		{"a 3 int", "arith r1 neg r0", "r0 int; r1 int"},
		{"a 3 v1", "on r0 s2", "r0 elem s2 on"},
		{"a 3 int", "name r1 s4 3", "r0 int; r1 elem s4 #d"},
		{"a 3 int", "point r1 s1 r0", "r0 int; r1 elem s1"},
		{"a 3 int", "point r0 s3 r0", "r0 elem s3"},
		{"a 3 int", "set r1 s0 r0", "r0 int; r1 elem s0"},
		{"a 3 int", "new r1 s5 own 4", "r0 int; r1 own s5 of 0"},
		{"a 3 int", "new r1 s5 shared 4", "r0 int; r1 shared s5"},
		{"a 3 v5", "size r1 r0", "r0 value s5; r1 int"},
		{"a 3 v5", "size r0 r0", "r0 int"},
		{"a 3 v0 int", "has r2 r0 r1", "r0 value s0; r1 int; r2 int"},
		{"a 3 v3 int", "value r2 r0 r1", "r0 value s3; r1 int; r2 int"},
		{"a 3 v3 int", "value r1 r0 r1", "r0 value s3; r1 int"},
		{"a 3 v1 s3", "spawn far 1 r0 r1", "r0 value s1; r1 shared s3"},
		{"a 3 int", "zero r0 1", "r0 int"},
		{"a 3 int", "jump 1", "r0 int"},
		{"a 3 int", "note", "r0 int"},
	} {
		testSights(t, x.head, x.line+"; halt", sightCase{1, x.want})
	}
	testSights(t, "a 3 s2", "on r1 s2; put r0 r1; when r0 1 r1>3; halt",
		sightCase{2, "r0 shared s2; r1 elem s2 on"}, sightCase{3, "r0 shared s2; r1 elem s2 on"})
	testSights(t, "a 3 s0 v1", "new r0 s0 own 0; note; new r1 s0 own 1; new r0 s1 own 2; halt",
		sightCase{1, "r0 own s0 of 0; r1 value s1"}, sightCase{3, "r0 own s0 of 0; r1 own s0 of 2"}, sightCase{4, "r0 own s1 of 3; r1 own s0 of 2"})
	// What is frozen is no variable any more, but where it is the same register.
	testSights(t, "a 3", "new r0 s0 own 0; freeze r2 r0 1; new r1 s3 own 2; freeze r1 r1 3; halt",
		sightCase{2, "r2 value s0"}, sightCase{4, "r1 value s3; r2 value s0"})
}

// P7.2: which integers and elements are known.
func TestSightOfKnown(t *testing.T) {
	for _, x := range []struct{ instructions, want string }{
		// r0 is an int that is not known, r1 is 7.
		{"point r2 s1 r1", "r2 elem s1 7"},
		{"point r2 s3 r1", "r2 elem s3 7"},
		{"point r1 s3 r1", "r1 elem s3 7"},
		{"set r2 s0 r1", "r2 elem s0 {7}"},
		{"set r2 s0 r0", "r2 elem s0"},
		{"arith r2 add r1 r1", "r2 int"},
		{"arith r1 neg r1", "r1 int"},
		{"arith r2 eq r1 r1; point r2 s1 r2", "r2 elem s1"},
		{"point r2 s1 r1; key r3 s5 r1 r2", "r2 elem s1 7; r3 elem s5 [7: 7]"},
		{"point r2 s1 r1; key r2 s5 r1 r2", "r2 elem s5 [7: 7]"},
		{"point r2 s1 r1; key r3 s5 r0 r2", "r2 elem s1 7; r3 elem s5"},
		{"point r2 s1 r0; key r3 s5 r1 r2", "r2 elem s1; r3 elem s5"},
		{"on r2 s2; name r3 s4 1; pair r4 s6 r2 r3", "r2 elem s2 on; r3 elem s4 #b; r4 elem s6 (on, #b)"},
		{"on r2 s2; pair r4 s6 r2 -", "r2 elem s2 on; r4 elem s6 (on, none)"},
		{"name r3 s4 2; pair r3 s6 - r3", "r3 elem s6 (none, #c)"},
		{"set r2 s0 r1; int r3 -2; set r3 s0 r3; join r4 s0 r2 r3", "r2 elem s0 {7}; r3 elem s0 {-2}; r4 elem s0 {-2, 7}"},
		{"set r2 s0 r1; join r2 s0 r2 r2", "r2 elem s0 {7}"},
		{"set r2 s0 r1; set r3 s0 r0; join r4 s0 r2 r3", "r2 elem s0 {7}; r3 elem s0; r4 elem s0"},
		{"set r2 s0 r1; set r3 s0 r0; join r2 s0 r3 r2", "r2 elem s0; r3 elem s0"},
		{"point r2 s3 r1; int r3 8; point r3 s3 r3; join r2 s3 r2 r3", "r2 elem s3 clash; r3 elem s3 8"},
		{"name r2 s4 1; name r3 s4 2; join r2 s4 r2 r3", "r2 elem s4 #d; r3 elem s4 #c"},
		{"name r2 s4 1; pair r2 s6 - r2; on r3 s2; pair r3 s6 r3 -; join r2 s6 r2 r3", "r2 elem s6 (on, #b); r3 elem s6 (on, none)"},
		{"point r2 s1 r1; int r3 9; point r3 s1 r3; join r4 s1 r3 r2", "r2 elem s1 7; r3 elem s1 9; r4 elem s1 9"},
	} {
		want := "r0 int; r1 int 7; " + x.want
		if strings.HasPrefix(x.want, "r1") {
			want = "r0 int; " + x.want
		}
		testSights(t, "a 6 int", "int r1 7; "+x.instructions+"; halt", sightCase{strings.Count(x.instructions, ";") + 2, want})
	}
}

// P7.2: a pair is known if both of its kids are.
func TestSightOfPairs(t *testing.T) {
	s := "lattice l { a; b }\nlattice m { a; b }\nshape l\nshape m\nshape max\nshape pair(max, max)\nshape pair(m, l)\n"
	s = strings.ReplaceAll(s, "a; b", "a: b; b")
	s += segmentText("a 9 int", "int r1 1", "point r1 s2 r1", "point r2 s2 r0", "pair r3 s3 r1 r1", "pair r4 s3 r1 r2", "pair r5 s3 r2 r1", "pair r6 s3 r2 r2", "pair r7 s3 r2 -", "pair r8 s3 - r2", "name r1 s0 1", "name r2 s1 1", "pair r1 s4 r2 r1", "halt")
	c := mustParse(t, s)
	want := "r0 int; r1 elem s4 (#b, #b); r2 elem s1 #b; r3 elem s3 (1, 1); r4 elem s3; r5 elem s3; r6 elem s3; r7 elem s3; r8 elem s3"
	if got := sightText(c, mustSight(t, c, 0, 12)); got != want {
		t.Errorf("Sight: %s, and not %s", got, want)
	}
	mustFail(t, "kids of other tables", readCode(t, strings.Replace(s, "s4 r2 r1", "s4 r1 r2", 1)), api.ErrType)
}

// joins returns instructions that join sets or maps (by their shape; of a map at the keys) of so many keys, from one on, into r1; other registers are r2 to r4.
func joins(shape string, from, n int) []string {
	var out []string
	for i := range n {
		out = append(out, fmt.Sprintf("int r2 %d", from+i))
		if shape == "s0" {
			out = append(out, "set r3 s0 r2")
		} else {
			out = append(out, "point r3 s1 r2", "key r3 s5 r2 r3")
		}
		if i > 0 {
			out = append(out, "join r1 "+shape+" r1 r3")
		} else {
			out = append(out, "join r1 "+shape+" r3 r3")
		}
	}
	return out
}

// P7.2: a join with more than MaxKeys keys is not known.
func TestSightOfManyKeys(t *testing.T) {
	for _, shape := range []string{"s0", "s5"} {
		l := append(joins(shape, 1, 40), "note", "int r2 3", "set r3 s0 r2", "note", "halt")
		c := mustParse(t, shapesText+segmentText("a 5 int", l...))
		at := len(joins(shape, 1, 40))
		x := mustSight(t, c, 0, at)
		if h := x.Regs[1]; !h.Known || len(h.E.Keys) != 40 || h.E.Keys[39] != 40 {
			t.Errorf("Sight with 40 keys: %s", sightText(c, x))
		}
		l = append(joins(shape, 1, 41), "note", "halt")
		c = mustParse(t, shapesText+segmentText("a 5 int", l...))
		x = mustSight(t, c, 0, len(l)-1)
		if got := heldText(c, x.Regs[1]); got != "elem "+shape {
			t.Errorf("Sight with 41 keys: %s", got)
		}
	}
	// Keys that are there already are none more; and what is not known stays so.
	l := append(joins("s0", 1, 40), "int r2 20", "set r3 s0 r2", "join r1 s0 r1 r3", "halt")
	c := mustParse(t, shapesText+segmentText("a 5 int", l...))
	if h := mustSight(t, c, 0, len(l)-1).Regs[1]; !h.Known || len(h.E.Keys) != 40 {
		t.Errorf("Sight with a key twice: %v", h)
	}
	l = append(joins("s0", 1, 41), "join r1 s0 r3 r1", "halt")
	c = mustParse(t, shapesText+segmentText("a 5 int", l...))
	if got := heldText(c, mustSight(t, c, 0, len(l)-1).Regs[1]); got != "elem s0" {
		t.Errorf("Sight behind too many keys: %s", got)
	}
	// A kid counts as well.
	l = append(joins("s0", 1, 40), "key r4 s1 r2 r1", "int r3 41", "set r3 s0 r3", "key r3 s1 r2 r3", "join r1 s1 r4 r3", "halt")
	c = mustParse(t, "shape set\nshape map(set)\n"+segmentText("a 5 int", l...))
	x := mustSight(t, c, 0, len(l)-1)
	if x.Regs[1].Known || x.Regs[1].Kind != api.HeldElem || x.Regs[1].S != 1 || !x.Regs[4].Known {
		t.Errorf("Sight with a kid of 41 keys: %v", x.Regs)
	}
}

// P7.2: the pools, and what was passed on in these.
func TestSightOfPools(t *testing.T) {
	testSights(t, "a 4",
		"new r0 s0 own 0; new r1 s0 own 1; new r2 s0 shared 2; all 3; spawn t 4 r1; spawn t 5 r2; all 6; spawn t 7 r0; spawn t 8 r1; spawn t 9 r1; each r0 k 10 r1; done 6; all 11; done 11; spawn t 12 r0; done 3; halt",
		sightCase{3, "r0 own s0 of 0; r1 own s0 of 1; r2 shared s0"},
		sightCase{4, "r0 own s0 of 0; r1 own s0 of 1; r2 shared s0; pool 3"},
		sightCase{5, "r0 own s0 of 0; r1 own s0 of 1; r2 shared s0; pool 3; passed 1 in 3"},
		sightCase{6, "r0 own s0 of 0; r1 own s0 of 1; r2 shared s0; pool 3; passed 1 in 3"},
		sightCase{7, "r0 own s0 of 0; r1 own s0 of 1; r2 shared s0; pool 3; pool 6; passed 1 in 3"},
		sightCase{8, "r0 own s0 of 0; r1 own s0 of 1; r2 shared s0; pool 3; pool 6; passed 0 in 6; passed 1 in 3"},
		sightCase{9, "r0 own s0 of 0; r1 own s0 of 1; r2 shared s0; pool 3; pool 6; passed 0 in 6; passed 1 in 3; passed 1 in 6"},
		sightCase{10, "r0 own s0 of 0; r1 own s0 of 1; r2 shared s0; pool 3; pool 6; passed 0 in 6; passed 1 in 3; passed 1 in 6"},
		sightCase{11, "r0 own s0 of 0; r1 own s0 of 1; r2 shared s0; pool 3; pool 6; passed 0 in 6; passed 1 in 3; passed 1 in 6"},
		sightCase{12, "r0 own s0 of 0; r1 own s0 of 1; r2 shared s0; pool 3; passed 1 in 3"},
		sightCase{13, "r0 own s0 of 0; r1 own s0 of 1; r2 shared s0; pool 3; pool 12; passed 1 in 3"},
		sightCase{14, "r0 own s0 of 0; r1 own s0 of 1; r2 shared s0; pool 3; passed 1 in 3"},
		sightCase{15, "r0 own s0 of 0; r1 own s0 of 1; r2 shared s0; pool 3; passed 0 in 3; passed 1 in 3"},
		sightCase{16, "r0 own s0 of 0; r1 own s0 of 1; r2 shared s0"},
	)
	// An each passes on its variable, and those among its arguments.
	testSights(t, "a 4", "new r0 s0 own 0; new r1 s0 own 1; all 2; each r1 h 3; each r1 k 4 r0; done 2; halt",
		sightCase{4, "r0 own s0 of 0; r1 own s0 of 1; pool 2; passed 1 in 2"}, sightCase{5, "r0 own s0 of 0; r1 own s0 of 1; pool 2; passed 0 in 2; passed 1 in 2"})
	// What was passed on stays so when no register holds it any more.
	testSights(t, "a 4", "new r0 s0 own 0; all 2; spawn t 3 r0; int r0 1; new r0 s0 own 4; spawn t 5 r0; done 2; halt",
		sightCase{4, "r0 int 1; pool 1; passed 0 in 1"}, sightCase{6, "r0 own s0 of 4; pool 1; passed 0 in 1; passed 4 in 1"})
}

// P7.2: where several ways lead to an instruction.
func TestSightOfWays(t *testing.T) {
	for _, x := range []struct{ one, other, want string }{
		{"note", "note", ""},
		{"int r1 1", "int r1 1", "r1 int 1"},
		{"int r1 1", "int r1 2", "r1 int"},
		{"int r1 1", "arith r1 neg r0", "r1 int"},
		{"arith r1 neg r0", "arith r1 neg r0", "r1 int"},
		{"arith r1 neg r0", "int r1 1", "r1 int"},
		{"int r1 1", "note", ""},
		{"note", "int r1 1", ""},
		{"int r1 1", "int r2 1", ""},
		{"int r1 1", "on r1 s2", ""},
		{"int r1 0", "set r1 s0 r0", ""},
		{"on r1 s2", "on r1 s2", "r1 elem s2 on"},
		{"name r1 s4 1", "name r1 s4 1", "r1 elem s4 #b"},
		{"name r1 s4 1", "name r1 s4 2", "r1 elem s4"},
		{"point r1 s1 r0", "point r1 s3 r0", ""},
		{"point r1 s1 r0", "point r1 s1 r0", "r1 elem s1"},
		{"on r1 s2", "name r1 s4 1", ""},
		{"new r1 s0 own 8", "new r1 s0 own 9", ""},
		{"new r1 s0 shared 8", "new r1 s0 shared 9", "r1 shared s0"},
		{"new r1 s0 shared 8", "new r1 s1 shared 9", ""},
		{"new r1 s0 own 8", "new r1 s0 shared 9", ""},
		{"freeze r1 r5 8", "freeze r1 r5 9", "r1 value s0"},
		{"freeze r5 r5 8", "freeze r5 r5 9", "r5 value s0"},
		{"freeze r1 r5 8", "note", ""},
		{"freeze r5 r5 8", "note", ""},
		{"int r5 1", "note", ""},
	} {
		want := "r0 int"
		if x.want != "" {
			want += "; " + x.want
		}
		gone := func(s string) bool { return strings.HasPrefix(s, "freeze") || strings.HasPrefix(s, "int r5") }
		if !gone(x.one) && !gone(x.other) {
			want += "; r5 own s0 of 0"
		}
		testSights(t, "a 6 int", "new r5 s0 own 0; zero r0 4; "+x.one+"; jump 5; "+x.other+"; note; halt", sightCase{5, want}, sightCase{6, want})
	}
	// A known element that comes on both ways, but of other instructions; and one of several keys.
	testSights(t, "a 6 int", "int r1 1; zero r0 5; int r2 2; set r3 s0 r1; jump 7; int r2 2; set r3 s0 r1; set r4 s0 r2; join r4 s0 r3 r4; halt", sightCase{9, "r0 int; r1 int 1; r2 int 2; r3 elem s0 {1}; r4 elem s0 {1, 2}"})
	testSights(t, "a 6 int", "int r1 1; int r2 2; set r1 s0 r1; set r2 s0 r2; zero r0 7; join r3 s0 r1 r2; jump 8; join r3 s0 r1 r1; halt", sightCase{8, "r0 int; r1 elem s0 {1}; r2 elem s0 {2}; r3 elem s0"})
	// An instruction sees what is known before it, and not what is known on each way alone.
	testSights(t, "a 6 int", "int r1 1; int r2 2; set r1 s0 r1; set r2 s0 r2; zero r0 8; join r3 s0 r1 r1; join r4 s0 r2 r2; jump 10; join r3 s0 r2 r2; join r4 s0 r1 r1; join r5 s0 r3 r4; halt",
		sightCase{10, "r0 int; r1 elem s0 {1}; r2 elem s0 {2}; r3 elem s0; r4 elem s0"}, sightCase{11, "r0 int; r1 elem s0 {1}; r2 elem s0 {2}; r3 elem s0; r4 elem s0; r5 elem s0"})
	// What was passed on on one of them was passed on.
	testSights(t, "a 6 int", "new r1 s0 own 0; new r2 s0 own 1; all 2; zero r0 6; spawn t 3 r2; jump 7; spawn t 4 r1; done 2; halt",
		sightCase{4, "r0 int; r1 own s0 of 0; r2 own s0 of 1; pool 2"},
		sightCase{5, "r0 int; r1 own s0 of 0; r2 own s0 of 1; pool 2; passed 1 in 2"},
		sightCase{6, "r0 int; r1 own s0 of 0; r2 own s0 of 1; pool 2"},
		sightCase{7, "r0 int; r1 own s0 of 0; r2 own s0 of 1; pool 2; passed 0 in 2; passed 1 in 2"},
		sightCase{8, "r0 int; r1 own s0 of 0; r2 own s0 of 1"})
	testSights(t, "a 6 int", "new r1 s0 own 0; all 2; zero r0 5; spawn t 3 r1; spawn t 5 r1; done 2; halt", sightCase{5, "r0 int; r1 own s0 of 0; pool 1; passed 0 in 1"})
	// More than two ways, by cases.
	testSights(t, "a 9 s3", "int r1 1; int r2 2; int r3 3; point r4 s3 r1; point r5 s3 r2; point r6 s3 r3; when r0 0 r4>7 r5>9 r6>11; int r7 5; jump 12; int r7 5; jump 12; int r7 5; halt",
		sightCase{12, "r0 shared s3; r1 int 1; r2 int 2; r3 int 3; r4 elem s3 1; r5 elem s3 2; r6 elem s3 3; r7 int 5"})
	testSights(t, "a 9 s3", "int r1 1; int r2 2; int r3 3; point r4 s3 r1; point r5 s3 r2; point r6 s3 r3; when r0 0 r4>7 r5>9 r6>11; int r7 5; jump 12; int r7 5; jump 12; int r7 6; halt",
		sightCase{12, "r0 shared s3; r1 int 1; r2 int 2; r3 int 3; r4 elem s3 1; r5 elem s3 2; r6 elem s3 3; r7 int"})
	testSights(t, "a 9 s3", "int r1 1; int r2 2; int r3 3; point r4 s3 r1; point r5 s3 r2; point r6 s3 r3; when r0 0 r4>7 r5>9 r6>12; int r7 5; jump 12; int r7 5; jump 12; halt; halt",
		sightCase{11, "not reached"}, sightCase{12, "r0 shared s3; r1 int 1; r2 int 2; r3 int 3; r4 elem s3 1; r5 elem s3 2; r6 elem s3 3"})
}

// P7.2: what is not reached: nothing is known there, and nothing comes from there.
func TestSightOfNotReached(t *testing.T) {
	testSights(t, "a 3 int", "int r1 1; jump 4; int r1 2; int r2 2; halt",
		sightCase{1, "r0 int; r1 int 1"}, sightCase{2, "not reached"}, sightCase{3, "not reached"}, sightCase{4, "r0 int; r1 int 1"})
	testSights(t, "a 3 int", "fail r0; all 1; put r0 r1; jump 5; done 6; halt",
		sightCase{1, "not reached"}, sightCase{2, "not reached"}, sightCase{5, "not reached"})
	testSights(t, "a 3 s2", "on r1 s2; when r0 1 r1>4; int r2 1; jump 4; halt",
		sightCase{2, "not reached"}, sightCase{4, "r0 shared s2; r1 elem s2 on"})
	c := mustParse(t, segmentText("a 2 int", "halt", "halt"))
	if x := mustSight(t, c, 0, 1); x.Reached || len(x.Regs)+len(x.Pools)+len(x.Passed) != 0 {
		t.Errorf("Sight of what is not reached: %v", x)
	}
	// An OZero goes either way, also where the integer is known.
	testSights(t, "a 3", "int r0 0; zero r0 4; int r1 1; halt; note; int r0 1; zero r0 8; halt; halt",
		sightCase{2, "r0 int 0"}, sightCase{4, "r0 int 0"}, sightCase{7, "r0 int 1"}, sightCase{8, "r0 int 1"})
}
