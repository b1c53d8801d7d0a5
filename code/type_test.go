package code_test

import (
	"fmt"
	"strings"
	"testing"

	"dripstone/api"
)

// holder is what a register can hold: of which kind it is, and of which shape, with the line that makes it; without one it is a param.
type holder struct {
	what  string
	shape int
	line  string
}

// holders are what registers hold from 0 on, with the shapes of shapesText: something of each kind, and of each shape.
func holders() []holder {
	out := []holder{{"int", 0, ""}}
	for shape := range 8 {
		out = append(out, holder{"value", shape, ""})
	}
	for shape := range 3 {
		out = append(out, holder{"shared", shape, ""})
	}
	for shape := range 8 {
		out = append(out, holder{"own", shape, fmt.Sprintf("new r%d s%d own %d", len(out), shape, 100+shape)})
	}
	out = append(out, holder{"shared", 7, fmt.Sprintf("new r%d s7 shared 110", len(out))}, holder{"shared", 5, fmt.Sprintf("new r%d s5 shared 111", len(out)+1)})
	at := len(out)
	for shape, line := range []string{"set r%d s0 r0", "point r%d s1 r0", "on r%d s2", "point r%d s3 r0", "name r%d s4 1"} {
		out = append(out, holder{"elem", shape, fmt.Sprintf(line, at+shape)})
	}
	return append(out,
		holder{"elem", 5, fmt.Sprintf("key r%d s5 r0 r%d", at+5, at+1)},
		holder{"elem", 6, fmt.Sprintf("pair r%d s6 r%d -", at+6, at+2)},
		holder{"elem", 7, fmt.Sprintf("key r%d s7 r0 r%d", at+7, at+3)},
		holder{"none", 0, ""},
	)
}

// held returns the head and the first instructions of a segment whose registers hold what holders says; behind them are three registers more.
func held(name string) (head string, first []string) {
	l := holders()
	head = fmt.Sprintf("%s %d int v0 v1 v2 v3 v4 v5 v6 v7 s0 s1 s2", name, len(l)+3)
	for _, h := range l {
		if h.line != "" {
			first = append(first, h.line)
		}
	}
	return head, first
}

// kindText returns the text of the kind of params for which something that is held is right; there is none for an element.
func kindText(h holder) string {
	switch h.what {
	case "int":
		return "int"
	case "value":
		return fmt.Sprintf("v%d", h.shape)
	case "own", "shared":
		return fmt.Sprintf("s%d", h.shape)
	}
	return "no kind"
}

// mustNeed tells if an instruction, which may stand in a pool, has not the error ErrType where it is reached and what it needs is not there, and only there.
func mustNeed(t *testing.T, line string, needs bool, more ...string) {
	t.Helper()
	head, first := held("main")
	want := api.OK
	if !needs {
		want = api.ErrType
	}
	first = append(first, "all 50", line, "done 50", "halt")
	mustCheck(t, line, readCode(t, shapesText+segmentText(head, first...)+strings.Join(more, "")), want)
	first[len(first)-4] = "halt"
	unreached := append(first, "halt")
	mustCheck(t, line+", not reached", readCode(t, shapesText+segmentText(head, unreached...)+strings.Join(more, "")), api.OK)
}

// variable says whether something that is held is a variable.
func variable(h holder) bool {
	return h.what == "own" || h.what == "shared"
}

// P7.1: what instructions with one operand need, of all that there is.
func TestNeedsOfOne(t *testing.T) {
	target := len(holders())
	for r, h := range holders() {
		isInt := h.what == "int"
		setOrMap := h.shape == 0 || h.shape == 5 || h.shape == 7
		maxOrOnce := h.shape == 1 || h.shape == 3
		mustNeed(t, fmt.Sprintf("arith r%d neg r%d", target, r), isInt)
		mustNeed(t, fmt.Sprintf("point r%d s1 r%d", target, r), isInt)
		mustNeed(t, fmt.Sprintf("point r%d s3 r%d", target, r), isInt)
		mustNeed(t, fmt.Sprintf("set r%d s0 r%d", target, r), isInt)
		mustNeed(t, fmt.Sprintf("pair r%d s6 r%d -", target, r), h.what == "elem" && h.shape == 2)
		mustNeed(t, fmt.Sprintf("pair r%d s6 - r%d", target, r), h.what == "elem" && h.shape == 4)
		mustNeed(t, fmt.Sprintf("freeze r%d r%d 60", target, r), h.what == "own")
		mustNeed(t, fmt.Sprintf("size r%d r%d", target, r), h.what == "value" && setOrMap)
		mustNeed(t, fmt.Sprintf("has r%d r%d r0", target, r), h.what == "value" && setOrMap)
		mustNeed(t, fmt.Sprintf("has r%d r1 r%d", target, r), isInt)
		mustNeed(t, fmt.Sprintf("value r%d r%d r0", target, r), h.what == "value" && maxOrOnce)
		mustNeed(t, fmt.Sprintf("value r%d r2 r%d", target, r), isInt)
		mustNeed(t, fmt.Sprintf("fail r%d", r), isInt)
		mustNeed(t, fmt.Sprintf("each r%d h 60", r), h.what == "own" && setOrMap, segmentText("h 1 int", "halt"))
		head, first := held("main")
		n := len(first)
		mustCheck(t, fmt.Sprintf("zero of %s", h.what), readCode(t, shapesText+segmentText(head, append(first, fmt.Sprintf("zero r%d %d", r, n+1), "halt")...)), map[bool]api.Errno{true: api.OK, false: api.ErrType}[isInt])
	}
}

// P7.1: what instructions with two operands need, of all that there is.
func TestNeedsOfTwo(t *testing.T) {
	target := len(holders())
	for r, h := range holders() {
		for q, g := range holders() {
			ints := h.what == "int" && g.what == "int"
			elems := h.what == "elem" && g.what == "elem"
			mustNeed(t, fmt.Sprintf("put r%d r%d", r, q), variable(h) && g.what == "elem" && g.shape == h.shape)
			mustNeed(t, fmt.Sprintf("pair r%d s6 r%d r%d", target, r, q), elems && h.shape == 2 && g.shape == 4)
			mustNeed(t, fmt.Sprintf("key r%d s5 r%d r%d", target, r, q), h.what == "int" && g.what == "elem" && g.shape == 1)
			mustNeed(t, fmt.Sprintf("key r%d s7 r%d r%d", target, r, q), h.what == "int" && g.what == "elem" && g.shape == 3)
			mustNeed(t, fmt.Sprintf("join r%d s%d r%d r%d", target, h.shape, r, q), elems && h.shape == g.shape)
			if q%7 == 0 || r%7 == 0 {
				for _, word := range []string{"add", "sub", "mul", "div", "eq", "ne", "lt", "le", "gt", "ge"} {
					mustNeed(t, fmt.Sprintf("arith r%d %s r%d r%d", target, word, r, q), ints)
				}
				mustNeed(t, fmt.Sprintf("join r%d s0 r%d r%d", target, r, q), elems && h.shape == 0 && g.shape == 0)
			}
		}
	}
}

// P7.1: a when needs a variable, and elements of its shape.
func TestNeedsOfWhen(t *testing.T) {
	head, first := held("main")
	for r, h := range holders() {
		for q, g := range holders() {
			needs := variable(h) && g.what == "elem" && g.shape == h.shape
			want := api.ErrType
			if needs {
				want = api.OK
			}
			when := fmt.Sprintf("when r%d 50 r%d>%d", r, q, len(first)+1)
			l := append(append([]string{}, first...), when, "halt")
			mustCheck(t, when, readCode(t, shapesText+segmentText(head, l...)), want)
		}
	}
}

// P7.1: arguments are as many as the params, and of their kinds.
func TestArguments(t *testing.T) {
	for r, h := range holders() {
		for _, g := range holders() {
			kind := kindText(g)
			if kind == "no kind" {
				continue
			}
			fits := kindText(h) == kind
			mustNeed(t, fmt.Sprintf("spawn f 60 r%d", r), fits, segmentText("f 9 "+kind, "halt"))
			mustNeed(t, fmt.Sprintf("each r12 f 60 r%d", r), fits, segmentText("f 9 "+kind+" int", "halt"))
			if r%5 == 0 {
				mustNeed(t, fmt.Sprintf("spawn f 60 r0 r%d r0", r), fits, segmentText("f 9 int "+kind+" int", "halt"))
				c := mustParse(t, shapesText+"use f int "+kind+"\n")
				head, first := held("main")
				d := readCode(t, segmentText(head, append(first, "all 50", fmt.Sprintf("spawn f 60 r0 r%d", r), "done 50", "halt")...))
				c.Segments = d.Segments
				mustFail(t, fmt.Sprintf("spawn of a use (%s) with %v", kind, h), c, map[bool]api.Errno{true: api.OK, false: api.ErrType}[fits])
			}
		}
	}
	f := segmentText("f 9 int s0", "halt")
	for line, needs := range map[string]bool{
		"spawn f 60 r0 r12": true, "spawn f 60": false, "spawn f 60 r0": false, "spawn f 60 r0 r12 r0": false, "spawn f 60 r12 r0": false,
		"spawn f 60 r0 r9": true, "spawn f 60 r0 r12 r12": false,
		// The key of an each is the last one.
		"each r12 f 60 r0": false, "each r12 f 60": false, "each r12 f 60 r0 r12": false,
		"each r12 main 60": false,
	} {
		mustNeed(t, line, needs, f)
	}
	g := segmentText("f 9 int s0 int", "halt")
	for line, needs := range map[string]bool{"each r12 f 60 r0 r12": true, "each r12 f 60 r0 r12 r0": false, "each r12 f 60 r12 r0": false, "each r12 f 60 r0": false, "each r12 f 60 r0 r9": true} {
		mustNeed(t, line, needs, g)
	}
	none := segmentText("f 9", "halt")
	for line, needs := range map[string]bool{"spawn f 60": true, "spawn f 60 r0": false, "each r12 f 60": false, "each r12 f 60 r0": false} {
		mustNeed(t, line, needs, none)
	}
	key := segmentText("f 9 int", "halt")
	for line, needs := range map[string]bool{"each r12 f 60": true, "each r12 f 60 r0": false} {
		mustNeed(t, line, needs, key)
	}
	for _, kind := range []string{"s0", "v0"} {
		mustNeed(t, "each r12 f 60", false, segmentText("f 9 "+kind, "halt"))
		mustNeed(t, "each r12 f 60 r0", false, segmentText("f 9 int "+kind, "halt"))
	}
}

// P7.1: several cases are known, and every two exclude each other; of one nothing is asked.
func TestSeveralCases(t *testing.T) {
	// The variables are r1 to r4, of a once, a set, l and map(once); the elements that are made go from r5 on.
	main := func(first []string, when string, cases int) string {
		l := append([]string{}, first...)
		l = append(l, when)
		for range cases {
			l = append(l, "halt")
		}
		return shapesText + segmentText("main 20 int s3 s0 s4 s7", l...)
	}
	once := func(r, n int) []string {
		return []string{fmt.Sprintf("int r%d %d", r, n), fmt.Sprintf("point r%d s3 r%d", r, r)}
	}
	join := func(l ...[]string) []string {
		var out []string
		for _, x := range l {
			out = append(out, x...)
		}
		return out
	}
	for i, x := range []struct {
		first    []string
		variable int
		cases    []int
		right    bool
	}{
		{once(5, 1), 1, []int{5}, true},
		{[]string{"point r5 s3 r0"}, 1, []int{5}, true},
		{[]string{"set r5 s0 r0"}, 2, []int{5}, true},
		{join(once(5, 1), once(6, 2)), 1, []int{5, 6}, true},
		{join(once(5, 1), once(6, 1)), 1, []int{5, 6}, false},
		{once(5, 1), 1, []int{5, 5}, false},
		{join(once(5, 1), once(6, 2), once(7, 3)), 1, []int{5, 6, 7}, true},
		{join(once(5, 1), once(6, 2), once(7, 1)), 1, []int{5, 6, 7}, false},
		{join(once(5, 1), once(6, 2), once(7, 2)), 1, []int{5, 6, 7}, false},
		{join(once(5, 1), once(6, 2), once(7, 3), once(8, 4)), 1, []int{5, 6, 7, 8}, true},
		{join(once(5, 1), once(6, 2), once(7, 3), once(8, 3)), 1, []int{5, 6, 7, 8}, false},
		{join(once(5, 1), once(6, 2), once(7, 3), once(8, 2)), 1, []int{5, 6, 7, 8}, false},
		{join(once(5, 1), once(6, 2), once(7, 3), once(8, 1)), 1, []int{5, 6, 7, 8}, false},
		{join(once(5, 1), []string{"point r6 s3 r0"}), 1, []int{5, 6}, false},
		{join([]string{"point r5 s3 r0"}, once(6, 1)), 1, []int{5, 6}, false},
		{join(once(5, 1), once(6, 2), []string{"point r7 s3 r0"}), 1, []int{5, 6, 7}, false},
		// An element that is wrong excludes all.
		{join(once(5, 1), once(6, 2), []string{"join r6 s3 r5 r6"}), 1, []int{5, 6}, true},
		{join(once(5, 1), once(6, 2), []string{"join r6 s3 r5 r6"}), 1, []int{6, 6}, true},
		{join(once(5, 1), once(6, 1), []string{"join r6 s3 r5 r6"}), 1, []int{5, 6}, false},
		// But it does not make another one known.
		{join(once(5, 1), once(6, 2), []string{"join r6 s3 r5 r6", "point r5 s3 r0"}), 1, []int{5, 6}, false},
		{join(once(5, 1), once(6, 2), []string{"join r6 s3 r5 r6", "point r5 s3 r0"}), 1, []int{6, 5}, false},
		{[]string{"int r5 1", "set r5 s0 r5", "int r6 2", "set r6 s0 r6"}, 2, []int{5, 6}, false},
		{[]string{"name r5 s4 1", "name r6 s4 2"}, 3, []int{5, 6}, true},
		{[]string{"name r5 s4 1", "name r6 s4 3"}, 3, []int{5, 6}, true},
		{[]string{"name r5 s4 1", "name r6 s4 1"}, 3, []int{5, 6}, false},
		{join(once(5, 1), once(6, 2), []string{"int r7 9", "key r5 s7 r7 r5", "key r6 s7 r7 r6"}), 4, []int{5, 6}, true},
		{join(once(5, 1), once(6, 2), []string{"int r7 9", "key r5 s7 r7 r5", "int r7 8", "key r6 s7 r7 r6"}), 4, []int{5, 6}, false},
		{join(once(5, 1), once(6, 2), []string{"int r7 9", "key r5 s7 r7 r5", "key r6 s7 r0 r6"}), 4, []int{5, 6}, false},
	} {
		when := fmt.Sprintf("when r%d 0", x.variable)
		for n, r := range x.cases {
			when += fmt.Sprintf(" r%d>%d", r, len(x.first)+1+n)
		}
		want := api.ErrType
		if x.right {
			want = api.OK
		}
		mustFail(t, fmt.Sprintf("%d: %v, %s", i, x.first, when), readCode(t, main(x.first, when, len(x.cases))), want)
	}
}
