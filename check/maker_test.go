package check_test

import (
	"math/rand"
	"slices"
	"strconv"
	"strings"

	"dripstone/api"
	"dripstone/order"
)

// maker makes texts of modules: such as keep all rules, and the sloppier, or bolder, it is the more often some that do not.
type maker struct {
	*rand.Rand
	sloppy int // of 100 decisions on names and types so many are made without looking
	bold   int // likewise of those on growth
	tables []string
	sigs   []sig
	out    strings.Builder
	names  int
	left   int // how many statements there may still be
	all    []*decl
	levels []*level
}

// sig is the head of a task or a use.
type sig struct {
	name   string
	params []string
	use    bool
}

// decl is a declaration that is in sight: an int, or an own, shared or frozen one of a shape.
type decl struct {
	name, kind, shape string
	level             *level
	passed            []int // in which pools
	done              bool  // frozen
}

// level is a level: the pools that are open in it, and that in which its EachStmt is.
type level struct {
	open []int
	in   int
}

// shapes are the texts of shapes, and those that need tables. Some come often.
func shapes() (plain, named []string) {
	return []string{"set", "set", "set", "set", "set", "set", "flag", "max", "max", "once", "once", "map(set)", "map(once)", "pair(flag, max)", "map(pair(once, set))", "pair(set, pair(once, flag))"},
		[]string{"l", "l", "map(l)", "pair(tint, max)", "tint"}
}

// makeModule returns the text of a module.
func makeModule(r *rand.Rand, sloppy, bold int) string {
	m := &maker{Rand: r, sloppy: sloppy, bold: bold}
	if m.Intn(3) > 0 {
		m.tables = []string{lText, tintText}
	}
	for i := range 1 + m.Intn(3) {
		m.sigs = append(m.sigs, sig{name: "f" + strconv.Itoa(i), params: m.params(3)})
	}
	m.sigs[0].name = "main"
	for i := range m.Intn(3) {
		m.sigs = append(m.sigs, sig{name: "u" + strconv.Itoa(i), params: m.params(3), use: true})
	}
	items := slices.Clone(m.tables)
	for _, x := range m.sigs {
		if x.use {
			items = append(items, "use "+x.name+"("+strings.Join(x.params, ", ")+");")
		} else {
			items = append(items, m.task(x))
		}
	}
	r.Shuffle(len(items), func(i, j int) { items[i], items[j] = items[j], items[i] })
	return strings.Join(items, "\n") + "\n"
}

// blind says whether a decision is made without looking.
func (m *maker) blind() bool {
	return m.Intn(100) < m.sloppy
}

// dares says whether a decision on growth is made without looking.
func (m *maker) dares() bool {
	return m.Intn(100) < m.bold
}

// one returns one of some texts.
func (m *maker) one(l ...string) string {
	return l[m.Intn(len(l))]
}

// shape returns a shape whose tables are there.
func (m *maker) shape() string {
	l, named := shapes()
	if len(m.tables) > 0 {
		l = append(l, named...)
	}
	return m.one(l...)
}

// params returns the types of at most n parameters.
func (m *maker) params(n int) []string {
	var out []string
	for range m.Intn(n + 1) {
		if m.Intn(2) == 0 {
			out = append(out, "int")
		} else {
			out = append(out, m.shape())
		}
	}
	return out
}

// name returns a new name.
func (m *maker) name() string {
	m.names++
	if len(m.all) > 0 && m.Intn(4) == 0 && m.blind() {
		return m.all[m.Intn(len(m.all))].name
	}
	return "v" + strconv.Itoa(m.names)
}

// task returns the text of a task.
func (m *maker) task(x sig) string {
	m.out.Reset()
	m.all, m.levels, m.left = nil, []*level{{}}, 10+m.Intn(10)
	m.out.WriteString("task " + x.name + "(")
	for i, s := range x.params {
		d := &decl{name: m.name(), kind: "shared", shape: s, level: m.levels[0]}
		if s == "int" {
			d.kind = "int"
		}
		if i > 0 {
			m.out.WriteString(", ")
		}
		m.out.WriteString(d.name + ": " + s)
		m.all = append(m.all, d)
	}
	m.out.WriteString(")")
	m.block(0)
	return m.out.String()
}

// block writes a block; what is declared in it is not in sight behind it.
func (m *maker) block(depth int) {
	known := len(m.all)
	m.out.WriteString(" { ")
	for range m.Intn(3) * m.Intn(2) {
		m.make("new", "own")
	}
	for range 1 + m.Intn(6-min(depth, 3)) {
		if m.left > 0 {
			m.left--
			m.stmt(depth)
		}
	}
	m.out.WriteString("} ")
	if m.blind() && m.Intn(8) == 0 {
		return
	}
	m.all = m.all[:known]
}

// here returns the innermost level.
func (m *maker) here() *level {
	return m.levels[len(m.levels)-1]
}

// some returns a declaration of which something holds, or nil.
func (m *maker) some(holds func(d *decl) bool) *decl {
	var l []*decl
	for _, d := range m.all {
		if holds(d) || m.blind() && m.Intn(2) == 0 {
			l = append(l, d)
		}
	}
	if len(l) == 0 {
		return nil
	}
	return l[m.Intn(len(l))]
}

// isVar says whether a declaration is that of a variable that was not frozen.
func (m *maker) isVar(d *decl) bool {
	return (d.kind == "own" || d.kind == "shared") && (!d.done || m.dares())
}

// isOwn says whether a declaration is that of a variable that is own here.
func (m *maker) isOwn(d *decl) bool {
	return d.kind == "own" && d.level == m.here()
}

// isGrown says whether a declaration is that of a variable that is own here, was not frozen, and not passed on in some pools.
func (m *maker) isGrown(d *decl, pools []int) bool {
	passed := slices.ContainsFunc(d.passed, func(pool int) bool { return slices.Contains(pools, pool) })
	return m.isVar(d) && (m.isOwn(d) || m.dares()) && (!passed || m.dares())
}

// touch notes that a node means a variable: in an each its EachStmt passes it on.
func (m *maker) touch(d *decl) string {
	i := slices.Index(m.levels, d.level)
	if d.kind == "own" && i+1 < len(m.levels) {
		d.passed = append(d.passed, m.levels[i+1].in)
	}
	return d.name
}

// stmt writes a statement.
func (m *maker) stmt(depth int) {
	kinds := []string{"new", "share", "let", "put", "put", "spawn", "spawn", "when", "fail", "freeze", "freeze"}
	if depth < 6 {
		kinds = append(kinds, "each", "each", "each", "all", "all", "if")
	}
	switch m.one(kinds...) {
	case "new":
		m.make("new", "own")
	case "share":
		m.make("share", "shared")
	case "let":
		e := m.expr(2)
		d := &decl{name: m.name(), kind: "int", level: m.here()}
		m.out.WriteString("let " + d.name + " = " + e + "; ")
		m.all = append(m.all, d)
	case "put":
		if d := m.some(m.isVar); d != nil {
			m.out.WriteString("put " + m.touch(d) + " " + m.point(d.shape, false) + "; ")
		}
	case "spawn":
		m.spawn()
	case "when":
		m.when(depth)
	case "fail":
		m.out.WriteString("fail " + m.expr(2) + "; ")
	case "freeze":
		m.freeze()
	case "each":
		m.each(depth)
	case "all":
		m.out.WriteString("all")
		m.pool(func() { m.block(depth + 1) })
	case "if":
		m.out.WriteString("if " + m.expr(2))
		m.block(depth + 1)
		if m.Intn(2) == 0 {
			m.out.WriteString("else")
			m.block(depth + 1)
		}
	}
}

// pool does something in one more pool.
func (m *maker) pool(do func()) {
	m.names++
	l := m.here()
	l.open = append(l.open, m.names)
	do()
	l.open = l.open[:len(l.open)-1]
}

// make writes a NewStmt or a ShareStmt.
func (m *maker) make(word, kind string) {
	d := &decl{name: m.name(), kind: kind, shape: m.shape(), level: m.here()}
	m.out.WriteString(word + " " + d.name + ": " + d.shape + "; ")
	m.all = append(m.all, d)
}

// spawn writes a SpawnStmt, if there is something for all parameters.
func (m *maker) spawn() {
	x := m.sigs[m.Intn(len(m.sigs))]
	var given []string
	var passed []*decl
	for _, param := range x.params {
		if param == "int" || m.blind() {
			given = append(given, m.expr(1))
			continue
		}
		d := m.some(func(d *decl) bool {
			return m.isVar(d) && d.shape == param && (!m.isOwn(d) || len(m.here().open) > 0 || m.dares())
		})
		if d == nil {
			return
		}
		given, passed = append(given, d.name), append(passed, d)
	}
	for _, d := range passed {
		m.touch(d)
		if open := m.here().open; m.isOwn(d) && len(open) > 0 {
			d.passed = append(d.passed, open[len(open)-1])
		}
	}
	m.out.WriteString("spawn " + x.name + "(" + strings.Join(given, ", ") + "); ")
}

// when writes a WhenStmt.
func (m *maker) when(depth int) {
	d := m.some(m.isVar)
	if d == nil {
		return
	}
	points := []string{m.point(d.shape, false)}
	cases := map[string][]string{
		"once": {"1", "2", "-3"}, "map(once)": {"[1] 1", "[1] 2"}, "l": {"#b", "#c"}, "tint": {"#blue", "#red"}, "map(l)": {"[-2] #b", "[-2] #c"},
		"pair(tint, max)": {"pair(#red, 2)", "pair(#blue, )"}, "map(pair(once, set))": {"[3] pair(1, )", "[3] pair(2, {4})"}, "pair(set, pair(once, flag))": {"pair(, pair(4, ))", "pair({1}, pair(-4, on))"},
	}
	if l, ok := cases[d.shape]; ok && m.Intn(2) == 0 {
		points = l
	}
	if points[0] == "#d" || points[0] == "#both" || strings.Contains(points[0], "#d") || strings.Contains(points[0], "#both") {
		if !m.blind() {
			return
		}
	}
	if m.blind() {
		points = append(points, m.point(d.shape, m.Intn(2) == 0))
	}
	if len(points) > 1 && m.dares() {
		points[m.Intn(2)] = m.point(d.shape, false)
	}
	m.out.WriteString("when " + m.touch(d))
	for i, point := range points {
		if i > 0 {
			m.out.WriteString("or")
		}
		m.out.WriteString(" " + point)
		m.block(depth + 1)
	}
}

// freeze writes a FreezeStmt.
func (m *maker) freeze() {
	d := m.some(func(d *decl) bool { return m.isGrown(d, m.here().open) })
	if d == nil {
		return
	}
	bind := &decl{name: m.name(), kind: "frozen", shape: d.shape, level: m.here()}
	m.out.WriteString("freeze " + m.touch(d) + " as " + bind.name + "; ")
	d.done = true
	m.all = append(m.all, bind)
}

// each writes an EachStmt.
func (m *maker) each(depth int) {
	open := m.here().open
	if len(open) == 0 && !m.dares() {
		m.out.WriteString("all { ")
		m.pool(func() { m.each(depth + 1) })
		m.out.WriteString("} ")
		return
	}
	d := m.some(func(d *decl) bool {
		keys := d.shape == "set" || strings.HasPrefix(d.shape, "map")
		return keys && m.isGrown(d, open[:max(0, len(open)-1)])
	})
	if d == nil {
		return
	}
	pool := 0
	if len(open) > 0 {
		pool = open[len(open)-1]
	}
	m.touch(d)
	d.passed = append(d.passed, pool)
	m.levels = append(m.levels, &level{in: pool})
	bind := &decl{name: m.name(), kind: "int", level: m.here()}
	m.out.WriteString("each " + d.name + " as " + bind.name)
	known := len(m.all)
	m.all = append(m.all, bind)
	m.block(depth + 1)
	m.all = m.all[:min(known, len(m.all))]
	m.levels = m.levels[:len(m.levels)-1]
}

// expr writes an expr into a text.
func (m *maker) expr(depth int) string {
	ints := func(d *decl) bool { return d.kind == "int" }
	switch m.Intn(8) {
	case 0, 1:
		if d := m.some(ints); d != nil {
			return d.name
		}
	case 2:
		if d := m.some(func(d *decl) bool {
			return d.kind == "frozen" && (d.shape == "set" || strings.HasPrefix(d.shape, "map"))
		}); d != nil {
			return m.one("size("+d.name+")", "has("+d.name+", "+m.expr(0)+")")
		}
	case 3:
		if d := m.some(func(d *decl) bool { return d.kind == "frozen" && (d.shape == "max" || d.shape == "once") }); d != nil {
			return "value(" + d.name + ", " + m.expr(0) + ")"
		}
	case 4:
		if depth > 0 {
			return "(" + m.expr(depth-1) + m.one(" + ", " - ", " * ", " / ", " < ", " == ", " != ") + m.expr(depth-1) + ")"
		}
	case 5:
		return "-" + m.one("3", "(-3)", strconv.Itoa(m.Intn(9)))
	}
	return strconv.Itoa(m.Intn(9))
}

// point writes a point of a shape into a text; all of its exprs are constant, if they must be.
func (m *maker) point(shape string, constant bool) string {
	s, e := order.ParseShape(shape)
	if e != api.OK || m.blind() && m.Intn(3) == 0 {
		s, _ = order.ParseShape(m.shape())
	}
	return m.pointOf(s, constant)
}

// pointOf writes a point of a shape into a text.
func (m *maker) pointOf(s api.Shape, constant bool) string {
	expr := func() string {
		if constant {
			return m.one("1", "2", "-1")
		}
		return m.expr(1)
	}
	switch s.Kind {
	case api.ShapeFlag:
		return "on"
	case api.ShapeSet:
		return m.one("{"+expr()+"}", "{"+expr()+", "+expr()+"}")
	case api.ShapeNamed:
		if s.Name == "l" {
			return "#" + m.one("b", "c", "d")
		}
		return "#" + m.one("red", "blue", "both")
	case api.ShapeMap:
		return "[" + expr() + "] " + m.pointOf(s.Kids[0], constant)
	case api.ShapePair:
		a, b := m.pointOf(s.Kids[0], constant), m.pointOf(s.Kids[1], constant)
		return m.one("pair("+a+", "+b+")", "pair("+a+", )", "pair(, "+b+")")
	}
	return expr()
}

// grower makes texts of tasks with a few own sets, in which names and types are right, and growth is as it comes.
type grower struct {
	*rand.Rand
	out   strings.Builder
	names int
	left  int
	vars  []string
}

// makeGrowth returns the text of such a module.
func makeGrowth(r *rand.Rand) string {
	m := &grower{Rand: r, left: 3 + r.Intn(8), vars: []string{"x", "y"}}
	m.out.WriteString("task f(s: set) { new x: set; new y: set; ")
	for m.left > 0 {
		m.row(0)
	}
	m.out.WriteString("} use g(set);")
	return m.out.String()
}

// row writes some statements, most of them in a pool.
func (m *grower) row(depth int) {
	pool := depth < 4 && m.Intn(8) > 0
	if pool {
		m.out.WriteString("all { ")
	}
	for range 1 + m.Intn(4) {
		if m.left > 0 {
			m.left--
			m.stmt(depth)
		}
	}
	if pool {
		m.out.WriteString("} ")
	}
}

// inner writes a block, in which there can be one more set.
func (m *grower) inner(depth int) {
	known := len(m.vars)
	m.out.WriteString(" { ")
	if m.Intn(3) == 0 {
		m.names++
		m.vars = append(m.vars, "z"+strconv.Itoa(m.names))
		m.out.WriteString("new " + m.vars[known] + ": set; ")
	}
	m.row(depth + 1)
	m.out.WriteString("} ")
	m.vars = m.vars[:known]
}

// stmt writes a statement.
func (m *grower) stmt(depth int) {
	m.names++
	name := strconv.Itoa(m.names)
	x := m.vars[m.Intn(len(m.vars))]
	switch n := m.Intn(12); {
	case n < 3:
		m.out.WriteString("spawn g(" + x + "); ")
	case n < 6 && depth < 6:
		m.out.WriteString("each " + x + " as k" + name)
		m.inner(depth)
	case n < 8 && depth < 6:
		m.out.WriteString("all")
		m.inner(depth)
	case n < 9:
		m.out.WriteString("freeze " + x + " as y" + name + "; ")
	case n < 10 && depth < 6:
		m.out.WriteString("if 1")
		m.inner(depth)
		if m.Intn(2) == 0 {
			m.out.WriteString("else")
			m.inner(depth)
		}
	case n < 11:
		m.out.WriteString("put " + x + " {1}; ")
	default:
		m.out.WriteString("spawn g(s); ")
	}
}
