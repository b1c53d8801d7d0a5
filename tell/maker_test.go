package tell_test

import (
	"math/rand"
	"slices"
	"strconv"
	"strings"
	"testing"

	"dripstone/api"
	"dripstone/check"
	"dripstone/order"
	"dripstone/parse"
)

// maker makes texts of programs.
type maker struct {
	*rand.Rand
	flat   bool // without pools, look-outs and freezes
	rough  int  // of 100 decisions so many are made without a thought of what can go wrong
	tables bool
	sigs   []sig
	self   int // which of them is written
	out    strings.Builder
	names  int
	left   int // how many statements there may still be
	all    []*decl
	levels []*level
}

// sig is the head of a task.
type sig struct {
	name   string
	params []string
}

// decl is a declaration that is in sight: an int, or an own, shared or frozen one of a shape.
type decl struct {
	name, kind, shape string
	level             *level
	passed            []int // in which pools
	done              bool  // frozen
}

// level is a level: the pools that are open in it, and that in which its EachStmt is.
type level struct {
	open []int
	in   int
}

// shapes are the texts of shapes, and those that need tables. Some come often.
func shapes() (plain, named []string) {
	return []string{"set", "set", "set", "set", "set", "set", "flag", "max", "max", "max", "once", "once", "once", "once", "map(set)", "map(max)", "map(once)", "pair(flag, max)", "map(pair(once, set))", "pair(set, pair(once, flag))"},
		[]string{"l", "l", "l", "l", "map(l)", "pair(tint, max)", "tint"}
}

// someProgram returns a program with inputs.
func someProgram(t *testing.T, r *rand.Rand, flat bool, rough int) (api.Tree, []int) {
	t.Helper()
	for {
		m := &maker{Rand: r, flat: flat, rough: rough}
		s := m.program()
		u, _, e := parse.Parse(s)
		if e == api.ErrLimit || e == api.ErrRange {
			continue
		}
		if e != api.OK {
			t.Fatalf("Parse of %q: %v", s, e)
		}
		if node, e := check.Program(u); e != api.OK {
			t.Fatalf("Program: %v at the node %d of\n%s", e, node, mustPrint(t, u))
		}
		var in []int
		for range m.sigs[0].params {
			in = append(in, r.Intn(9)-1)
		}
		return u, in
	}
}

// program returns the text of a program.
func (m *maker) program() string {
	items := []string{}
	if m.Intn(3) > 0 {
		m.tables = true
		items = append(items, lText, tintText)
	}
	m.sigs = []sig{{"main", slices.Repeat([]string{"int"}, m.Intn(3))}}
	for i := range 1 + m.Intn(3) {
		m.sigs = append(m.sigs, sig{"f" + strconv.Itoa(i), m.params()})
	}
	for i, x := range m.sigs {
		m.self = i
		items = append(items, m.task(x))
	}
	m.Shuffle(len(items), func(i, j int) { items[i], items[j] = items[j], items[i] })
	return strings.Join(items, "\n") + "\n"
}

// dares says whether a decision is made without a thought.
func (m *maker) dares() bool {
	return m.Intn(100) < m.rough
}

// one returns one of some texts.
func (m *maker) one(l ...string) string {
	return l[m.Intn(len(l))]
}

// shape returns a shape whose tables are there.
func (m *maker) shape() string {
	l, named := shapes()
	if m.tables {
		l = append(l, named...)
	}
	return m.one(l...)
}

// params returns the types of some parameters.
func (m *maker) params() []string {
	out := []string{"int"}
	for range m.Intn(4) {
		if m.Intn(4) == 0 {
			out = append(out, "int")
		} else {
			out = append(out, m.shape())
		}
	}
	return out
}

// name returns a new name.
func (m *maker) name() string {
	m.names++
	return "v" + strconv.Itoa(m.names)
}

// task returns the text of a task.
func (m *maker) task(x sig) string {
	m.out.Reset()
	m.all, m.levels, m.left = nil, []*level{{}}, 8+m.Intn(16)
	m.out.WriteString("task " + x.name + "(")
	for i, s := range x.params {
		d := &decl{name: m.name(), kind: "shared", shape: s, level: m.levels[0]}
		if s == "int" {
			d.kind = "int"
		}
		if i > 0 {
			m.out.WriteString(", ")
		}
		m.out.WriteString(d.name + ": " + s)
		m.all = append(m.all, d)
	}
	m.out.WriteString(")")
	m.block(0)
	return m.out.String()
}

// block writes a block; what is declared in it is not in sight behind it.
func (m *maker) block(depth int) {
	known := len(m.all)
	m.out.WriteString(" { ")
	if depth == 0 {
		for range m.Intn(4) {
			m.make()
		}
	}
	for range 1 + m.Intn(6-min(depth, 3)) {
		if m.left > 0 {
			m.left--
			m.stmt(depth)
		}
	}
	m.out.WriteString("} ")
	m.all = m.all[:known]
}

// here returns the innermost level.
func (m *maker) here() *level {
	return m.levels[len(m.levels)-1]
}

// some returns a declaration of which something holds, or nil.
func (m *maker) some(holds func(d *decl) bool) *decl {
	var l []*decl
	for _, d := range m.all {
		if holds(d) {
			l = append(l, d)
		}
	}
	if len(l) == 0 {
		return nil
	}
	return l[m.Intn(len(l))]
}

// isVar says whether a declaration is that of a variable that was not frozen.
func (m *maker) isVar(d *decl) bool {
	return (d.kind == "own" || d.kind == "shared") && !d.done
}

// isOwn says whether a declaration is that of a variable that is own here.
func (m *maker) isOwn(d *decl) bool {
	return d.kind == "own" && d.level == m.here()
}

// isGrown says whether a declaration is that of a variable that is own here, was not frozen, and not passed on in some pools.
func (m *maker) isGrown(d *decl, pools []int) bool {
	return m.isVar(d) && m.isOwn(d) && !slices.ContainsFunc(d.passed, func(pool int) bool { return slices.Contains(pools, pool) })
}

// touch notes that a node means a variable: in an each its EachStmt passes it on.
func (m *maker) touch(d *decl) string {
	i := slices.Index(m.levels, d.level)
	if d.kind == "own" && i+1 < len(m.levels) {
		d.passed = append(d.passed, m.levels[i+1].in)
	}
	return d.name
}

// stmt writes a statement.
func (m *maker) stmt(depth int) {
	kinds := []string{"make", "let", "put", "put", "put", "put", "spawn", "spawn", "spawn", "when", "when"}
	if m.Intn(4) == 0 {
		kinds = append(kinds, "fail")
	}
	if depth < 6 {
		kinds = append(kinds, "if", "if")
	}
	if m.flat {
		kinds = append(kinds, "when", "when", "when")
	} else {
		kinds = append(kinds, "freeze", "freeze")
		if depth < 6 {
			kinds = append(kinds, "each", "each", "each", "all", "all")
		}
	}
	switch m.one(kinds...) {
	case "make":
		m.make()
	case "let":
		e := m.expr(2)
		d := &decl{name: m.name(), kind: "int", level: m.here()}
		m.out.WriteString("let " + d.name + " = " + e + "; ")
		m.all = append(m.all, d)
	case "put":
		if d := m.some(m.isVar); d != nil {
			m.out.WriteString("put " + m.touch(d) + " " + m.point(d.shape) + "; ")
		}
	case "spawn":
		m.spawn()
	case "when":
		m.when(depth)
	case "fail":
		m.out.WriteString("fail " + m.expr(2) + "; ")
	case "freeze":
		m.freeze()
	case "each":
		m.each(depth)
	case "all":
		m.out.WriteString("all")
		m.pool(func() { m.block(depth + 1) })
	case "if":
		m.out.WriteString("if " + m.expr(2))
		m.block(depth + 1)
		if m.Intn(2) == 0 {
			m.out.WriteString("else")
			m.block(depth + 1)
		}
	}
}

// pool does something in one more pool.
func (m *maker) pool(do func()) {
	m.names++
	l := m.here()
	l.open = append(l.open, m.names)
	do()
	l.open = l.open[:len(l.open)-1]
}

// make writes a NewStmt or a ShareStmt.
func (m *maker) make() {
	d := &decl{name: m.name(), kind: "own", shape: m.shape(), level: m.here()}
	word := "new "
	if m.Intn(3) == 0 || m.flat && m.Intn(4) > 0 {
		d.kind, word = "shared", "share "
	}
	m.out.WriteString(word + d.name + ": " + d.shape + "; ")
	m.all = append(m.all, d)
}

// spawn writes a SpawnStmt, if there is something for all parameters. A task that does not stand behind its own one is spawned only with a number that becomes smaller.
func (m *maker) spawn() {
	i := m.self + m.Intn(len(m.sigs)-m.self)
	if m.Intn(5) == 0 {
		i = m.Intn(len(m.sigs))
	}
	if i == 0 && len(m.sigs[0].params) == 0 {
		return
	}
	x := m.sigs[i]
	n := m.sigs[m.self].params
	guarded := i <= m.self && !m.dares()
	if guarded && len(n) == 0 {
		return
	}
	var given []string
	var passed []*decl
	for j, param := range x.params {
		if param == "int" && guarded && j == 0 {
			given = append(given, m.all[0].name+" - 1")
			continue
		}
		if param == "int" {
			given = append(given, m.expr(1))
			continue
		}
		d := m.some(func(d *decl) bool {
			return m.isVar(d) && d.shape == param && (!m.isOwn(d) || len(m.here().open) > 0)
		})
		if d == nil {
			return
		}
		given, passed = append(given, d.name), append(passed, d)
	}
	for _, d := range passed {
		m.touch(d)
		if open := m.here().open; m.isOwn(d) && len(open) > 0 {
			d.passed = append(d.passed, open[len(open)-1])
		}
	}
	s := "spawn " + x.name + "(" + strings.Join(given, ", ") + "); "
	if guarded {
		s = "if " + m.all[0].name + " > 0 { " + s + "} "
	}
	m.out.WriteString(s)
}

// when writes a WhenStmt.
func (m *maker) when(depth int) {
	d := m.some(m.isVar)
	if d == nil {
		return
	}
	points := []string{m.point(d.shape)}
	cases := map[string][]string{
		"once": {"2", "1", "-3"}, "map(once)": {"[1] 2", "[1] 1"}, "l": {"#c", "#b"}, "tint": {"#blue", "#red"}, "map(l)": {"[2] #b", "[2] #c"},
		"pair(tint, max)": {"pair(#red, 2)", "pair(#blue, )"}, "map(pair(once, set))": {"[1] pair(1, )", "[1] pair(2, {4})"}, "pair(set, pair(once, flag))": {"pair(, pair(4, ))", "pair({1}, pair(1, on))"},
	}
	if l, ok := cases[d.shape]; ok && m.Intn(2) == 0 {
		points = l
	}
	if strings.Contains(points[0], "#d") || strings.Contains(points[0], "#both") {
		return
	}
	m.out.WriteString("when " + m.touch(d))
	for i, point := range points {
		if i > 0 {
			m.out.WriteString("or")
		}
		m.out.WriteString(" " + point)
		m.block(depth + 1)
	}
}

// freeze writes a FreezeStmt.
func (m *maker) freeze() {
	d := m.some(func(d *decl) bool { return m.isGrown(d, m.here().open) })
	if d == nil {
		return
	}
	bind := &decl{name: m.name(), kind: "frozen", shape: d.shape, level: m.here()}
	m.out.WriteString("freeze " + m.touch(d) + " as " + bind.name + "; ")
	d.done = true
	m.all = append(m.all, bind)
}

// each writes an EachStmt, in a pool.
func (m *maker) each(depth int) {
	open := m.here().open
	if len(open) == 0 {
		known := len(m.all)
		m.out.WriteString("all { ")
		m.pool(func() { m.each(depth + 1) })
		m.out.WriteString("} ")
		m.all = m.all[:known]
		if d := m.some(func(d *decl) bool { return m.isVar(d) && d.shape == "set" }); d != nil && m.Intn(2) == 0 {
			m.out.WriteString("put " + m.touch(d) + " " + m.point("set") + "; ")
		}
		return
	}
	d := m.some(func(d *decl) bool {
		keys := d.shape == "set" || strings.HasPrefix(d.shape, "map")
		return keys && m.isGrown(d, open[:len(open)-1])
	})
	if d == nil {
		d = &decl{name: m.name(), kind: "own", shape: "set", level: m.here()}
		m.out.WriteString("new " + d.name + ": set; put " + d.name + " " + m.point("set") + "; ")
		m.all = append(m.all, d)
	}
	m.touch(d)
	d.passed = append(d.passed, open[len(open)-1])
	m.levels = append(m.levels, &level{in: open[len(open)-1]})
	bind := &decl{name: m.name(), kind: "int", level: m.here()}
	m.out.WriteString("each " + d.name + " as " + bind.name)
	known := len(m.all)
	m.all = append(m.all, bind)
	if d.shape == "set" && m.Intn(2) == 0 {
		m.touch(d)
		m.out.WriteString(" { if " + bind.name + " > 0 { put " + d.name + " {" + bind.name + m.one(" - 1", " / 2", " - 2") + "}; } ")
		m.out.WriteString("if " + m.expr(1))
		m.block(depth + 3)
		m.out.WriteString("} ")
	} else {
		m.block(depth + 1)
	}
	m.all = m.all[:known]
	m.levels = m.levels[:len(m.levels)-1]
	if m.Intn(2) == 0 {
		m.out.WriteString("put " + d.name + " " + m.point(d.shape) + "; ")
	}
}

// expr writes an expr into a text.
func (m *maker) expr(depth int) string {
	ints := func(d *decl) bool { return d.kind == "int" }
	switch m.Intn(9) {
	case 0, 1, 2:
		if d := m.some(ints); d != nil {
			return d.name
		}
	case 3:
		if d := m.some(func(d *decl) bool {
			return d.kind == "frozen" && (d.shape == "set" || strings.HasPrefix(d.shape, "map"))
		}); d != nil {
			return m.one("size("+d.name+")", "has("+d.name+", "+m.expr(0)+")")
		}
	case 4:
		if d := m.some(func(d *decl) bool { return d.kind == "frozen" && (d.shape == "max" || d.shape == "once") }); d != nil {
			return "value(" + d.name + ", " + m.expr(0) + ")"
		}
	case 5:
		if depth > 0 {
			signs := []string{" + ", " - ", " * ", " < ", " == ", " != ", " > ", " <= ", " >= "}
			if m.Intn(5) == 0 {
				signs = []string{" / ", " * 1000000000 * "}
			}
			return "(" + m.expr(depth-1) + m.one(signs...) + m.expr(depth-1) + ")"
		}
	case 6:
		return "-" + m.one("1", "(-3)", strconv.Itoa(m.Intn(4)))
	}
	return strconv.Itoa(m.Intn(5))
}

// point writes a point of a shape into a text.
func (m *maker) point(shape string) string {
	s, e := order.ParseShape(shape)
	if e != api.OK {
		panic(shape)
	}
	return m.pointOf(s)
}

// pointOf writes a point of a shape into a text; mostly such as exclude no others.
func (m *maker) pointOf(s api.Shape) string {
	switch s.Kind {
	case api.ShapeFlag:
		return "on"
	case api.ShapeOnce:
		if !m.dares() {
			return "1"
		}
	case api.ShapeSet:
		return m.one("{"+m.expr(1)+"}", "{"+m.expr(1)+", "+m.expr(1)+"}")
	case api.ShapeNamed:
		if m.dares() {
			return map[string]string{"l": "#" + m.one("b", "c", "d"), "tint": "#" + m.one("red", "blue", "both")}[s.Name]
		}
		return map[string]string{"l": "#b", "tint": "#red"}[s.Name]
	case api.ShapeMap:
		return "[" + m.expr(1) + "] " + m.pointOf(s.Kids[0])
	case api.ShapePair:
		a, b := m.pointOf(s.Kids[0]), m.pointOf(s.Kids[1])
		return m.one("pair("+a+", "+b+")", "pair("+a+", )", "pair(, "+b+")")
	}
	return m.expr(1)
}
