package code

import (
	"strconv"
	"strings"

	"dripstone/api"
	"dripstone/order"
)

// read returns the module with a text. What it returns of a text that is that of none is any module: whoever calls it finds out.
func read(s string) api.Code {
	var out api.Code
	for line := range strings.Lines(s) {
		line = strings.TrimSuffix(line, "\n")
		if rest, ok := strings.CutPrefix(line, indent); ok {
			if n := len(out.Segments); n > 0 {
				to := &out.Segments[n-1]
				to.Ins = append(to.Ins, readIns(strings.Split(rest, " ")))
			}
			continue
		}
		switch l := strings.Split(line, " "); l[0] {
		case shapeWord:
			shape, _ := order.ParseShape(strings.Join(l[1:], " "))
			out.Shapes = append(out.Shapes, shape)
		case useWord:
			name, kinds := headed(l[1:])
			out.Uses = append(out.Uses, api.Sign{Name: name, Params: readKinds(kinds)})
		case segmentWord:
			name, rest := headed(l[1:])
			regs, kinds := headed(rest)
			out.Segments = append(out.Segments, api.Segment{Name: name, Params: readKinds(kinds), Regs: readNumber(regs)})
		default:
			table, _ := order.Parse(line)
			out.Tables = append(out.Tables, table)
		}
	}
	return out
}

// headed returns the first one of some words, or an empty one, if there is none, and the others.
func headed(l []string) (string, []string) {
	if len(l) == 0 {
		return "", nil
	}
	return l[0], l[1:]
}

// readNumber returns the number with a text, behind the letter that may stand there.
func readNumber(s string) int {
	n, _ := strconv.Atoi(strings.TrimLeft(s, "rsv"))
	return n
}

// readKinds returns the kinds with some texts.
func readKinds(l []string) []int {
	var out []int
	for _, s := range l {
		switch {
		case s == intWord:
			out = append(out, -1)
		case strings.HasPrefix(s, "v"):
			out = append(out, -2-readNumber(s))
		default:
			out = append(out, readNumber(s))
		}
	}
	return out
}

// readIns returns the instruction with some words.
func readIns(l []string) api.Ins {
	out := api.Ins{Op: operation(l[0])}
	rest := l[1:]
	// That which has no C is known to be so only when its Name has been read.
	for _, letter := range []byte(fields[out.Op]) {
		switch letter {
		case 'W', 'L':
			out.Name, rest = headed(rest)
		case 'R':
			for _, s := range rest {
				out.Args = append(out.Args, readNumber(s))
			}
		case 'K':
			for _, s := range rest {
				reg, to, _ := strings.Cut(s, caseSign)
				out.Cases = append(out.Cases, api.Case{Reg: readNumber(reg), To: readNumber(to)})
			}
		default:
			var s string
			s, rest = headed(rest)
			*number(&out, letter) = readField(s)
		}
	}
	return out
}

// readField returns the number of a field with a text.
func readField(s string) int {
	switch s {
	case noRegister:
		return -1
	case sharedWord:
		return 1
	}
	return readNumber(s)
}
