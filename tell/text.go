package tell

import (
	"strconv"
	"strings"

	"dripstone/api"
	"dripstone/elem"
	"dripstone/order"
)

// outcomeText returns the text of an outcome.
func outcomeText(l []api.Table, o api.Outcome) string {
	var out strings.Builder
	line := func(parts ...string) { out.WriteString(strings.Join(parts, "") + "\n") }
	line("tasks ", strconv.Itoa(o.Tasks), ", steps ", strconv.Itoa(o.Steps))
	for _, v := range o.Vars {
		shape, _ := order.ShapeText(v.Shape)
		// A value with too long a text has none.
		text, _ := elem.Text(api.Lattice{Tables: l, Shape: v.Shape}, v.E)
		line("var ", taskText(v.Path), " ", strconv.Itoa(v.Site), " ", shape, " = ", text)
	}
	for _, n := range o.Fails {
		line("fail ", strconv.Itoa(n))
	}
	for _, w := range o.Waits {
		line("wait ", taskText(w.Path), " ", strconv.Itoa(w.Site))
	}
	return out.String()
}

// taskText returns the text of a task with a path.
func taskText(path []api.Hop) string {
	out := "main"
	for _, hop := range path {
		out += "/" + strconv.Itoa(hop.Site) + ":" + strconv.Itoa(hop.Piece)
	}
	return out
}
