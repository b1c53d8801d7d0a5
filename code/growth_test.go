package code_test

import (
	"fmt"
	"strings"
	"testing"

	"dripstone/api"
)

// own are instructions that make an own set in r1, a shared one in r2, and an own one in r3.
func own(l ...string) []string {
	return append([]string{"new r1 s0 own 100", "new r2 s0 shared 101", "new r3 s0 own 102"}, l...)
}

// mustGrow tells if instructions of a segment, with an int in r0, have not an error.
func mustGrow(t *testing.T, want api.Errno, l ...string) {
	t.Helper()
	c := readAny(t, l...)
	c.Segments = append(c.Segments, readCode(t, segmentText("two 3 s0 s0", "halt")+segmentText("h 1 int", "halt")).Segments...)
	mustFail(t, strings.Join(l, "; "), c, want)
}

// P7.1: pools begin and end, one in the other.
func TestPools(t *testing.T) {
	for _, x := range []struct {
		lines string
		want  api.Errno
	}{
		{"halt", api.OK},
		{"all 1; done 1; halt", api.OK},
		{"all 0; done 0; halt", api.OK},
		{"all 1; all 2; done 2; done 1; halt", api.OK},
		{"all 1; done 1; all 2; done 2; halt", api.OK},
		{"all 1; halt", api.ErrState},
		{"all 1; all 2; done 2; halt", api.ErrState},
		{"all 1; fail r0", api.OK},
		{"all 1; all 2; fail r0", api.OK},
		{"done 1; halt", api.ErrState},
		{"done 0; halt", api.ErrState},
		{"all 1; done 1; done 1; halt", api.ErrState},
		{"all 1; done 2; halt", api.ErrState},
		{"all 1; done 0; halt", api.ErrState},
		{"all 1; all 2; done 1; done 2; halt", api.ErrState},
		{"all 1; all 2; done 1; done 1; halt", api.ErrState},
		{"all 1; zero r0 3; note; done 1; halt", api.OK},
		{"all 1; zero r0 4; done 1; halt; done 1; halt", api.OK},
		{"all 1; zero r0 4; done 1; halt; halt", api.ErrState},
		{"all 1; zero r0 4; done 1; halt; fail r0", api.OK},
		// Ways with other pools meet.
		{"zero r0 2; all 1; fail r0", api.ErrState},
		{"zero r0 3; all 1; jump 3; fail r0", api.ErrState},
		{"zero r0 3; all 1; done 1; halt", api.OK},
		{"zero r0 3; all 1; jump 4; all 2; fail r0", api.ErrState},
		{"all 1; zero r0 3; done 1; fail r0", api.ErrState},
		{"all 1; zero r0 4; all 2; jump 5; all 3; fail r0", api.ErrState},
		{"all 1; zero r0 5; all 2; done 2; jump 7; all 3; done 3; done 1; halt", api.OK},
		{"all 1; zero r0 4; note; jump 5; note; done 1; halt", api.OK},
		// What is not reached is on no way.
		{"jump 3; all 1; jump 3; halt", api.OK},
		{"halt; done 1; all 2; halt", api.OK},
		{"zero r0 3; fail r0; all 1; halt", api.OK},
		{"all 1; jump 3; done 1; done 1; halt", api.OK},
	} {
		mustGrow(t, x.want, strings.Split(x.lines, "; ")...)
	}
	w := readCode(t, "shape flag\n"+segmentText("a 2 s0", "on r1 s0", "when r0 1 r1>2", "all 2", "done 2", "halt"))
	mustFail(t, "a when", w, api.OK)
	w = readCode(t, "shape once\n"+segmentText("a 3 s0", "int r1 1", "int r2 2", "point r1 s0 r1", "point r2 s0 r2", "when r0 1 r1>5 r2>6", "all 2", "fail r0", "halt"))
	mustFail(t, "cases that meet with other pools", w, api.ErrState)
}

// P7.1, R7: so many pools one in the other, and one more.
func TestMostPools(t *testing.T) {
	pools := func(n int) string {
		var l []string
		for i := range n {
			l = append(l, fmt.Sprintf("all %d", i))
		}
		for i := range n {
			l = append(l, fmt.Sprintf("done %d", n-1-i))
		}
		return strings.Join(append(l, "all 50", "done 50", "halt"), "; ")
	}
	mustGrow(t, api.OK, strings.Split(pools(12), "; ")...)
	mustGrow(t, api.ErrState, strings.Split(pools(13), "; ")...)
	var l []string
	for i := range 40 {
		l = append(l, fmt.Sprintf("all %d", i), fmt.Sprintf("done %d", i))
	}
	mustGrow(t, api.OK, append(l, "halt")...)
}

// P7.1: own variables are passed on only in a pool.
func TestPassedInPools(t *testing.T) {
	for _, x := range []struct {
		lines string
		want  api.Errno
	}{
		{"spawn t 1 r1; halt", api.ErrState},
		{"spawn t 1 r2; halt", api.OK},
		{"spawn two 1 r2 r1; halt", api.ErrState},
		{"spawn two 1 r1 r2; halt", api.ErrState},
		{"spawn two 1 r2 r2; halt", api.OK},
		{"all 1; spawn two 2 r1 r3; done 1; halt", api.OK},
		{"all 1; spawn t 2 r1; done 1; spawn t 3 r1; halt", api.ErrState},
		{"all 1; spawn t 2 r1; spawn t 3 r1; done 1; all 4; spawn t 5 r1; done 4; halt", api.OK},
		{"each r1 h 1; halt", api.ErrState},
		{"each r1 k 1 r2; halt", api.ErrState},
		{"all 1; each r1 h 2; done 1; halt", api.OK},
		{"all 1; each r1 k 2 r2; done 1; halt", api.OK},
		{"all 1; each r1 k 2 r1; done 1; halt", api.OK},
		{"all 1; each r1 k 2 r3; done 1; halt", api.OK},
		{"all 1; done 1; each r1 h 2; halt", api.ErrState},
		// A param is not own.
		{"halt; spawn t 1 r1; halt", api.OK},
	} {
		mustGrow(t, x.want, own(strings.Split(x.lines, "; ")...)...)
	}
	for _, spawn := range []string{"spawn t 1 r0", "spawn far 1 r0"} {
		mustFail(t, "a param is passed on", readCode(t, "shape set\nuse far s0\n"+segmentText("t 2 s0", spawn, "halt")), api.OK)
	}
	mustFail(t, "an own one is passed on to a use", readCode(t, "shape set\nuse far s0\n"+segmentText("t 2 s0", "new r0 s0 own 0", "spawn far 1 r0", "halt")), api.ErrState)
	mustFail(t, "a value is passed on", readCode(t, "shape set\nuse far v0\n"+segmentText("t 2 s0", "new r0 s0 own 0", "freeze r0 r0 2", "spawn far 1 r0", "halt")), api.OK)
}

// P7.1, P7.10: what looks out, or freezes, finds nobody who could still put something from a pool that is open.
func TestGrowth(t *testing.T) {
	for _, x := range []struct {
		lines string
		want  api.Errno
	}{
		{"freeze r4 r1 9; halt", api.OK},
		{"all 1; freeze r4 r1 9; done 1; halt", api.OK},
		{"all 1; spawn t 2 r1; done 1; freeze r4 r1 9; halt", api.OK},
		{"all 1; spawn t 2 r1; freeze r4 r1 9; done 1; halt", api.ErrState},
		{"all 1; spawn t 2 r3; freeze r4 r1 9; done 1; halt", api.OK},
		{"all 1; spawn two 2 r2 r1; freeze r4 r1 9; done 1; halt", api.ErrState},
		{"all 1; spawn t 2 r1; all 3; freeze r4 r1 9; done 3; done 1; halt", api.ErrState},
		{"all 1; all 3; spawn t 2 r1; freeze r4 r1 9; done 3; done 1; halt", api.ErrState},
		{"all 1; all 3; spawn t 2 r1; done 3; freeze r4 r1 9; done 1; halt", api.OK},
		{"all 1; spawn t 4 r1; all 3; spawn t 2 r1; done 3; freeze r4 r1 9; done 1; halt", api.ErrState},
		{"all 1; each r1 h 2; freeze r4 r1 9; done 1; halt", api.ErrState},
		{"all 1; each r1 h 2; done 1; freeze r4 r1 9; halt", api.OK},
		{"all 1; each r3 k 2 r1; freeze r4 r1 9; done 1; halt", api.ErrState},
		{"all 1; each r3 k 2 r1; done 1; freeze r4 r1 9; halt", api.OK},
		{"all 1; spawn t 2 r1; each r1 h 3; done 1; halt", api.OK},
		{"all 1; each r1 h 2; each r1 h 3; spawn t 4 r1; done 1; halt", api.OK},
		{"all 1; spawn t 2 r1; all 3; each r1 h 4; done 3; done 1; halt", api.ErrState},
		{"all 1; all 3; spawn t 2 r1; each r1 h 4; done 3; done 1; halt", api.OK},
		{"all 1; all 3; spawn t 2 r1; done 3; each r1 h 4; done 1; halt", api.OK},
		{"all 1; each r1 h 2; all 3; each r1 h 4; done 3; done 1; halt", api.ErrState},
		{"all 1; all 2; spawn t 3 r1; all 4; each r1 h 5; done 4; done 2; done 1; halt", api.ErrState},
		{"all 1; spawn t 2 r1; all 3; each r3 k 4 r1; done 3; done 1; halt", api.OK},
		{"all 1; each r3 k 2 r1; all 3; each r1 h 4; done 3; done 1; halt", api.ErrState},
		{"all 1; spawn t 2 r1; all 3; each r1 k 4 r1; done 3; done 1; halt", api.ErrState},
		// On one of several ways is enough.
		{"all 1; zero r0 6; spawn t 2 r1; freeze r4 r1 9; done 1; halt", api.ErrState},
		{"all 1; zero r0 7; spawn t 2 r1; jump 8; note; freeze r4 r1 9; done 1; halt", api.ErrState},
		{"all 1; zero r0 7; spawn t 2 r1; jump 9; freeze r4 r1 9; jump 9; done 1; halt", api.OK},
		{"all 1; zero r0 6; spawn t 2 r1; all 3; each r1 h 4; done 3; done 1; halt", api.ErrState},
		{"all 1; zero r0 6; spawn t 2 r1; each r1 h 4; done 1; halt", api.OK},
		// Behind it the register holds nothing.
		{"freeze r4 r1 9; put r1 r0; halt", api.ErrType},
		{"freeze r4 r1 9; freeze r4 r1 10; halt", api.ErrType},
		{"freeze r4 r1 9; all 1; spawn t 2 r1; done 1; halt", api.ErrType},
		{"freeze r4 r1 9; all 1; each r1 h 2; done 1; halt", api.ErrType},
		{"freeze r1 r1 9; size r4 r1; halt", api.OK},
		{"freeze r1 r3 9; size r4 r1; freeze r4 r3 10; halt", api.ErrType},
		{"freeze r1 r3 9; freeze r3 r1 10; halt", api.ErrType},
		{"zero r0 5; freeze r4 r1 9; freeze r4 r1 10; halt", api.ErrType},
		{"zero r0 6; freeze r4 r1 9; jump 7; freeze r4 r1 10; size r4 r4; halt", api.OK},
		// A variable that is made anew is another one.
		{"all 1; spawn t 2 r1; new r1 s0 own 3; freeze r4 r1 9; done 1; halt", api.OK},
		{"all 1; spawn t 2 r1; new r1 s0 own 3; all 4; each r1 h 5; done 4; done 1; halt", api.OK},
		{"all 1; spawn t 2 r1; new r1 s0 own 3; spawn t 4 r1; freeze r4 r1 9; done 1; halt", api.ErrState},
	} {
		mustGrow(t, x.want, own(strings.Split(x.lines, "; ")...)...)
	}
}
