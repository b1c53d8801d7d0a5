package compile_test

import (
	"math/rand"
	"slices"
	"strconv"
	"strings"
	"sync"
	"testing"

	"dripstone/api"
	"dripstone/check"
	"dripstone/order"
	"dripstone/parse"
)

// maker makes texts of modules: it tries what comes to its mind, and keeps what makes a module.
type maker struct {
	*rand.Rand
	program bool // main has integers alone, and there are no uses
	text    string
	open    []string // what closes the blocks that are open
	rest    []string // the items behind that which is written
	sigs    []sig
	self    int // which of them is written
	names   int
	left    int // how many statements there may still be
	seen    []decl
}

// sig is the head of a task, or a use.
type sig struct {
	name   string
	params []decl
	use    bool
}

// decl is what is declared in sight: an int, a variable (var) or what one was (frozen), of a shape.
type decl struct{ name, kind, shape string }

// someModules returns modules, or programs, that are made.
func someModules(seed int64, n int, program bool) []api.Tree {
	r := rand.New(rand.NewSource(seed))
	var out []api.Tree
	for range n {
		m := &maker{Rand: r, program: program}
		u, _, e := parse.Parse(m.module())
		if e != api.OK {
			panic(m.text)
		}
		out = append(out, u)
	}
	return out
}

// madeModules and madePrograms return those on which all tests try what they try.
var (
	madeModules  = sync.OnceValue(func() []api.Tree { return someModules(8, 200, false) })
	madePrograms = sync.OnceValue(func() []api.Tree { return someModules(88, 250, true) })
)

// testModules returns modules: some that are made, and those of the texts.
func testModules(t *testing.T) []api.Tree {
	t.Helper()
	out := slices.Concat(madeModules(), madePrograms())
	for _, s := range moduleTexts() {
		out = append(out, mustModule(t, s))
	}
	return out
}

// module returns the text of a module.
func (m *maker) module() string {
	m.text = lText + tintText
	m.sigs = []sig{{name: "main", params: m.ints()}}
	if !m.program && m.Intn(2) == 0 {
		m.sigs[0] = sig{name: "first", params: m.params()}
	}
	for i := range m.Intn(4) {
		m.sigs = append(m.sigs, sig{name: "f" + strconv.Itoa(i), params: m.params()})
	}
	if !m.program && m.Intn(2) == 0 {
		m.sigs = append(m.sigs, sig{name: "far", params: m.params(), use: true})
	}
	for i, x := range m.sigs {
		m.self = i
		m.rest = nil
		for _, later := range m.sigs[i+1:] {
			m.rest = append(m.rest, later.empty())
		}
		if x.use {
			m.text += x.empty()
		} else {
			m.task(x)
		}
	}
	return m.text
}

// task writes a task.
func (m *maker) task(x sig) {
	m.text += x.head() + "{ "
	m.open = []string{"} "}
	m.left = 8 + m.Intn(24)
	m.seen = slices.Clone(x.params)
	for range 3 {
		m.declare()
	}
	m.stmts(0)
	m.text += "} "
}

// head returns the text of a sig up to where its block begins, or of a use its end.
func (x sig) head() string {
	var l []string
	for _, d := range x.params {
		typed := d.shape
		if d.kind == "int" {
			typed = "int"
		}
		if !x.use {
			typed = d.name + ": " + typed
		}
		l = append(l, typed)
	}
	out := x.name + "(" + strings.Join(l, ", ") + ") "
	if x.use {
		return "use " + out
	}
	return "task " + out
}

// empty returns the text of an item that does nothing.
func (x sig) empty() string {
	if x.use {
		return x.head() + "; "
	}
	return x.head() + "{ } "
}

// ints returns parameters that are integers.
func (m *maker) ints() []decl {
	var out []decl
	for range m.Intn(3) {
		out = append(out, decl{name: m.name(), kind: "int"})
	}
	return out
}

// params returns some parameters.
func (m *maker) params() []decl {
	out := m.ints()
	for range m.Intn(3) {
		out = append(out, decl{name: m.name(), kind: "var", shape: m.shape()})
	}
	m.Shuffle(len(out), func(i, j int) { out[i], out[j] = out[j], out[i] })
	return out
}

// one returns one of some texts.
func (m *maker) one(l ...string) string {
	return l[m.Intn(len(l))]
}

// shape returns the text of a shape. Some come often.
func (m *maker) shape() string {
	return m.one("set", "set", "set", "max", "once", "flag", "l", "map(set)", "map(max)", "pair(flag, l)", "map(pair(once, set))", "pair(set, pair(tint, once))", "tint")
}

// name returns a new name.
func (m *maker) name() string {
	m.names++
	return "v" + strconv.Itoa(m.names)
}

// right says whether there is a module when it is gone on with a text, and all is closed that is open then.
func (m *maker) right(s string) bool {
	whole := m.text + s
	for i := len(m.open) - 1; i >= 0; i-- {
		whole += m.open[i]
	}
	u, _, e := parse.Parse(whole + strings.Join(m.rest, ""))
	if e != api.OK {
		return false
	}
	_, e = check.Module(u)
	return e == api.OK
}

// tries goes on with a text, if this is right when something closes it.
func (m *maker) tries(s, closing string) bool {
	right := m.right(s + closing)
	if right {
		m.text += s
	}
	return right
}

// some returns a declaration of which something holds.
func (m *maker) some(holds func(d decl) bool) (decl, bool) {
	var l []decl
	for _, d := range m.seen {
		if holds(d) {
			l = append(l, d)
		}
	}
	if len(l) == 0 {
		return decl{}, false
	}
	return l[m.Intn(len(l))], true
}

// isVar says whether a declaration is that of a variable.
func isVar(d decl) bool { return d.kind == "var" }

// hasKeys says whether a declaration is that of something with keys.
func hasKeys(d decl) bool { return d.shape == "set" || strings.HasPrefix(d.shape, "map") }

// stmts writes statements.
func (m *maker) stmts(depth int) {
	for range 2 + m.Intn(8-min(depth, 4)) {
		if m.left > 0 {
			m.left--
			m.stmt(depth)
		}
	}
}

// block goes on with a text that opens a block, and writes the block.
func (m *maker) block(s string, depth int, known ...decl) bool {
	if !m.tries(s+" { ", "} ") {
		return false
	}
	before := len(m.seen)
	m.seen = append(m.seen, known...)
	m.open = append(m.open, "} ")
	m.stmts(depth + 1)
	m.open = m.open[:len(m.open)-1]
	m.seen = m.seen[:before]
	m.text += "} "
	return true
}

// declare writes a NewStmt or a ShareStmt.
func (m *maker) declare() {
	d := decl{name: m.name(), kind: "var", shape: m.shape()}
	if m.tries(m.one("new ", "new ", "share ")+d.name+": "+d.shape+"; ", "") {
		m.seen = append(m.seen, d)
	}
}

// stmt writes a statement, if it is right.
func (m *maker) stmt(depth int) {
	kinds := []string{"declare", "let", "let", "put", "put", "put", "spawn", "spawn", "spawn", "when", "when", "each", "each", "each", "freeze", "freeze", "all", "all", "if", "if"}
	if m.Intn(3) == 0 {
		kinds = append(kinds, "fail")
	}
	v, ok := m.some(isVar)
	if !ok {
		kinds = []string{"declare", "let"}
	}
	switch m.one(kinds...) {
	case "declare":
		m.declare()
	case "let":
		d := decl{name: m.name(), kind: "int"}
		if m.tries("let "+d.name+" = "+m.expr(2)+"; ", "") {
			m.seen = append(m.seen, d)
		}
	case "put":
		m.tries("put "+v.name+" "+m.point(v.shape)+"; ", "")
	case "spawn":
		m.spawn()
	case "when":
		m.when(v, depth)
	case "each":
		m.each(depth)
	case "freeze":
		d := decl{name: m.name(), kind: "frozen", shape: v.shape}
		if m.tries("freeze "+v.name+" as "+d.name+"; ", "") {
			m.seen = append(m.seen, d)
		}
	case "all":
		m.block("all", depth)
	case "if":
		if m.block("if "+m.expr(2), depth) && m.Intn(2) == 0 {
			m.block("else", depth)
		}
	case "fail":
		m.tries("fail "+m.expr(2)+"; ", "")
	}
}

// spawn writes a SpawnStmt, of a program only of a task behind its own one.
func (m *maker) spawn() {
	from := 0
	if m.program {
		from = m.self + 1
	}
	if from == len(m.sigs) {
		return
	}
	x := m.sigs[from+m.Intn(len(m.sigs)-from)]
	var given []string
	for _, param := range x.params {
		if param.kind == "int" {
			given = append(given, m.expr(1))
			continue
		}
		d, ok := m.some(func(d decl) bool { return isVar(d) && d.shape == param.shape })
		if !ok {
			return
		}
		given = append(given, d.name)
	}
	m.tries("spawn "+x.name+"("+strings.Join(given, ", ")+"); ", "")
}

// each writes an EachStmt, in a pool of its own if it must be.
func (m *maker) each(depth int) {
	v, ok := m.some(func(d decl) bool { return isVar(d) && hasKeys(d) })
	if !ok {
		return
	}
	k := decl{name: m.name(), kind: "int"}
	s := "each " + v.name + " as " + k.name
	if m.block(s, depth, k) {
		m.tries("put "+v.name+" "+m.point(v.shape)+"; ", "")
		return
	}
	if !m.right("all { " + s + " { } } ") {
		return
	}
	m.text += "all { "
	m.open = append(m.open, "} ")
	m.block(s, depth+1, k)
	m.tries("put "+v.name+" "+m.point(v.shape)+"; ", "")
	m.open = m.open[:len(m.open)-1]
	m.text += "} "
}

// when writes a WhenStmt, with as many cases as are right.
func (m *maker) when(v decl, depth int) {
	cases := map[string][]string{
		"once": {"1", "-2", "3", "0"}, "l": {"#b", "#c"}, "tint": {"#red", "#blue"}, "pair(flag, l)": {"pair(on, #b)", "pair(, #c)"},
		"map(pair(once, set))": {"[1] pair(1, {2})", "[1] pair(2, )"}, "pair(set, pair(tint, once))": {"pair(, pair(, 1))", "pair({1, 2}, pair(, -2))"},
	}[v.shape]
	if len(cases) == 0 || m.Intn(3) == 0 {
		cases = []string{m.point(v.shape)}
	}
	m.Shuffle(len(cases), func(i, j int) { cases[i], cases[j] = cases[j], cases[i] })
	for i, point := range cases[:1+m.Intn(len(cases))] {
		word := "or "
		if i == 0 {
			word = "when " + v.name + " "
		}
		if !m.block(word+point, depth) {
			return
		}
	}
}

// expr returns the text of an expr.
func (m *maker) expr(depth int) string {
	switch m.Intn(8) {
	case 0, 1, 2:
		if d, ok := m.some(func(d decl) bool { return d.kind == "int" }); ok {
			return d.name
		}
	case 3:
		if d, ok := m.some(func(d decl) bool { return d.kind == "frozen" && hasKeys(d) }); ok {
			return m.one("size("+d.name+")", "has("+d.name+", "+m.expr(depth-1)+")")
		}
	case 4:
		if d, ok := m.some(func(d decl) bool { return d.kind == "frozen" && (d.shape == "max" || d.shape == "once") }); ok {
			return "value(" + d.name + ", " + m.expr(depth-1) + ")"
		}
	case 5:
		if depth > 0 {
			return "(" + m.expr(depth-1) + m.one(" + ", " - ", " * ", " < ", " == ", " != ", " > ", " <= ", " >= ", " / ") + m.expr(depth-1) + ")"
		}
	case 6:
		return "-" + m.one("1", "-2", "(-3)", strconv.Itoa(m.Intn(3)), "("+m.expr(depth-1)+")")
	}
	return strconv.Itoa(m.Intn(4))
}

// point returns the text of a point of a shape.
func (m *maker) point(shape string) string {
	s, e := order.ParseShape(shape)
	if e != api.OK {
		panic(shape)
	}
	return m.pointOf(s)
}

// pointOf returns the text of a point of a shape; mostly such as exclude no others.
func (m *maker) pointOf(s api.Shape) string {
	switch s.Kind {
	case api.ShapeFlag:
		return "on"
	case api.ShapeOnce:
		return m.one("1", "1", "1", m.expr(1))
	case api.ShapeSet:
		l := []string{m.expr(1)}
		for range m.Intn(api.MaxPoint) {
			l = append(l, m.expr(1))
		}
		return "{" + strings.Join(l, ", ") + "}"
	case api.ShapeNamed:
		return map[string]string{"l": m.one("#b", "#b", "#b", "#c"), "tint": "#red"}[s.Name]
	case api.ShapeMap:
		return "[" + m.expr(1) + "] " + m.pointOf(s.Kids[0])
	case api.ShapePair:
		a, b := m.pointOf(s.Kids[0]), m.pointOf(s.Kids[1])
		return m.one("pair("+a+", "+b+")", "pair("+a+", )", "pair(, "+b+")")
	}
	return m.expr(1)
}
