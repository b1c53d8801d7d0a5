package code

import (
	"strconv"
	"strings"

	"dripstone/api"
	"dripstone/order"
)

// Words of lines, and what stands in them for a number.
const (
	shapeWord   = "shape"
	useWord     = "use"
	segmentWord = "segment"
	intWord     = "int"
	ownWord     = "own"
	sharedWord  = "shared"
	noRegister  = "-"
	indent      = "  "
	caseSign    = ">"
)

// text returns the text of a module that has its form.
func text(c api.Code) string {
	var out strings.Builder
	line := func(words ...string) {
		out.WriteString(strings.Join(words, " ") + "\n")
	}
	for _, t := range c.Tables {
		s, _ := order.Text(t)
		line(s)
	}
	for _, shape := range c.Shapes {
		s, _ := order.ShapeText(shape)
		line(shapeWord, s)
	}
	for _, u := range c.Uses {
		line(append([]string{useWord, u.Name}, kindTexts(u.Params)...)...)
	}
	for _, s := range c.Segments {
		line(append([]string{segmentWord, s.Name, strconv.Itoa(s.Regs)}, kindTexts(s.Params)...)...)
		for _, i := range s.Ins {
			line(append([]string{indent + words[i.Op]}, fieldTexts(i)...)...)
		}
	}
	return out.String()
}

// kindTexts returns the texts of kinds.
func kindTexts(kinds []int) []string {
	var out []string
	for _, kind := range kinds {
		switch {
		case kind == -1:
			out = append(out, intWord)
		case kind >= 0:
			out = append(out, "s"+strconv.Itoa(kind))
		default:
			out = append(out, "v"+strconv.Itoa(-2-kind))
		}
	}
	return out
}

// fieldTexts returns the words of the fields of an instruction.
func fieldTexts(i api.Ins) []string {
	var out []string
	for _, letter := range []byte(fieldsOf(i)) {
		switch letter {
		case 'W', 'L':
			out = append(out, i.Name)
		case 'R':
			for _, r := range i.Args {
				out = append(out, registerText(r))
			}
		case 'K':
			for _, c := range i.Cases {
				out = append(out, registerText(c.Reg)+caseSign+strconv.Itoa(c.To))
			}
		default:
			out = append(out, numberText(*number(&i, letter), letter))
		}
	}
	return out
}

// registerText returns the text of a register, or of none.
func registerText(r int) string {
	if r < 0 {
		return noRegister
	}
	return "r" + strconv.Itoa(r)
}

// numberText returns the text of the number of a field with a letter.
func numberText(n int, letter byte) string {
	switch letter {
	case 'A', 'B', 'C', 'b', 'c':
		return registerText(n)
	case 'S':
		return "s" + strconv.Itoa(n)
	case 'V':
		if n == 0 {
			return ownWord
		}
		return sharedWord
	}
	return strconv.Itoa(n)
}
