package code_test

import (
	"fmt"
	"slices"
	"strings"
	"testing"

	"dripstone/api"
	"dripstone/order"
)

// readAny returns the code of a segment main (an int in r0, 20 registers) with some instructions, right or not, with the shapes of shapesText, a task t of a set, and k of a set and an int.
func readAny(t *testing.T, instructions ...string) api.Code {
	t.Helper()
	return readCode(t, shapesText+segmentText("main 20 int", instructions...)+segmentText("t 1 s0", "halt")+segmentText("k 2 s0 int", "halt"))
}

// readCode reads any text that is laid out as that of a module, whether it is that of a right one or not.
func readCode(t *testing.T, s string) api.Code {
	t.Helper()
	var out api.Code
	for line := range strings.Lines(s) {
		line = strings.TrimSuffix(line, "\n")
		w := strings.Fields(line)
		var e api.Errno
		switch {
		case strings.HasPrefix(line, "  "):
			last := &out.Segments[len(out.Segments)-1]
			last.Ins = append(last.Ins, readIns(t, line, w))
		case w[0] == "lattice":
			var x api.Table
			x, e = order.Parse(line)
			out.Tables = append(out.Tables, x)
		case w[0] == "shape":
			var x api.Shape
			x, e = order.ParseShape(strings.TrimPrefix(line, "shape "))
			out.Shapes = append(out.Shapes, x)
		case w[0] == "use":
			out.Uses = append(out.Uses, api.Sign{Name: w[1], Params: readKinds(t, w[2:])})
		default:
			out.Segments = append(out.Segments, api.Segment{Name: w[1], Regs: scan(t, w[2], "%d")[0], Params: readKinds(t, w[3:])})
		}
		if e != api.OK {
			t.Fatalf("%v of %q", e, line)
		}
	}
	return out
}

// opWords are the words of the operations, from OInt on.
func opWords() []string {
	return []string{"int", "arith", "on", "name", "point", "set", "key", "pair", "join", "new", "put", "spawn", "when", "each", "all", "done", "freeze", "size", "has", "value", "jump", "zero", "note", "fail", "halt"}
}

// scan returns the numbers in a text of a form.
func scan(t *testing.T, s, form string) []int {
	t.Helper()
	out := make([]int, strings.Count(form, "%d"))
	var to []any
	for i := range out {
		to = append(to, &out[i])
	}
	if _, e := fmt.Sscanf(s, form, to...); e != nil {
		t.Fatalf("%q is not of the form %q", s, form)
	}
	return out
}

// readKinds returns the kinds with some texts.
func readKinds(t *testing.T, l []string) []int {
	t.Helper()
	var out []int
	for _, s := range l {
		switch s[0] {
		case 'i':
			out = append(out, -1)
		case 's':
			out = append(out, scan(t, s, "s%d")[0])
		default:
			out = append(out, -2-scan(t, s, "v%d")[0])
		}
	}
	return out
}

// readIns returns the instruction with some words: what each can be is known by how it begins.
func readIns(t *testing.T, line string, w []string) api.Ins {
	t.Helper()
	var i api.Ins
	var regs, numbers []int
	var names []string
	for _, s := range w[1:] {
		switch {
		case s == "-":
			regs = append(regs, -1)
		case strings.Contains(s, ">"):
			n := scan(t, s, "r%d>%d")
			i.Cases = append(i.Cases, api.Case{Reg: n[0], To: n[1]})
		case s[0] == 'r' && len(s) > 1 && s[1] >= '0' && s[1] <= '9':
			regs = append(regs, scan(t, s, "r%d")[0])
		case s[0] == 's' && len(s) > 1 && s[1] >= '0' && s[1] <= '9':
			i.S = scan(t, s, "s%d")[0]
		case s[0] >= '0' && s[0] <= '9' || s[0] == '-':
			numbers = append(numbers, scan(t, s, "%d")[0])
		default:
			names = append(names, s)
		}
	}
	i.Op = uint8(1 + slices.Index(opWords(), w[0]))
	switch i.Op {
	case api.OSpawn, api.OEach:
		if i.Op == api.OEach {
			i.A, regs = regs[0], regs[1:]
		}
		i.Name, i.Args, i.Site = names[0], regs, numbers[0]
	case api.OArith:
		i.Name = names[0]
	case api.ONew:
		if names[0] == "shared" {
			i.B = 1
		}
		i.Site = numbers[0]
	case api.OWhen, api.OAll, api.ODone, api.OFreeze:
		i.Site = numbers[0]
	case api.OInt, api.OName, api.OJump, api.OZero:
		i.N = numbers[0]
	}
	if i.Op != api.OSpawn && i.Op != api.OEach {
		for n, to := range []*int{&i.A, &i.B, &i.C} {
			if n < len(regs) {
				*to = regs[n]
			}
		}
	}
	if strings.Join(rawIns(i), " ") != strings.TrimSpace(line) {
		t.Fatalf("%q was read as %v", line, i)
	}
	return i
}
