package compile_test

import (
	"maps"
	"slices"
	"strconv"
	"strings"
	"testing"

	"dripstone/api"
	"dripstone/check"
	"dripstone/compile"
	"dripstone/order"
)

// piece is a node, with the nodes around it.
type piece struct {
	api.TreeNode
	n    int
	up   *piece
	kids []*piece
}

// pieces returns the nodes of a tree.
func pieces(u api.Tree) []*piece {
	var all []*piece
	var grow func(up *piece)
	grow = func(up *piece) {
		x := &piece{TreeNode: u.Nodes[len(all)], n: len(all), up: up}
		all = append(all, x)
		for len(all) < x.n+x.Size {
			kid := len(all)
			grow(x)
			x.kids = append(x.kids, all[kid])
		}
	}
	grow(nil)
	return all
}

// in yields a node and all nodes in it, in their order.
func (x *piece) in(yield func(*piece) bool) {
	var walk func(x *piece) bool
	walk = func(x *piece) bool {
		if !yield(x) {
			return false
		}
		for _, kid := range x.kids {
			if !walk(kid) {
				return false
			}
		}
		return true
	}
	walk(x)
}

// is says whether a node is of one of some kinds.
func (x *piece) is(kinds ...uint8) bool {
	return slices.Contains(kinds, x.Kind)
}

// last returns the last kid of a node.
func (x *piece) last() *piece {
	return x.kids[len(x.kids)-1]
}

// kidsOf returns the kids of a node that are of a kind.
func (x *piece) kidsOf(kind uint8) []*piece {
	return slices.DeleteFunc(slices.Clone(x.kids), func(y *piece) bool { return y.Kind != kind })
}

// plain is the code of a module as the chapter's definitions say it, as lines.
type plain struct {
	all    []*piece
	tables []api.Table
	shapes []string
	homes  []*plainHome
	head   []string // the lines before those of segments
}

// plainHome is the segment of a home: its lines, in which places are the names of labels, and for each its origin.
type plainHome struct {
	*plain
	home    *piece
	name    string
	params  []string
	lines   []string
	origins []int
	labels  map[string]int
	marks   int
	busy    map[int]bool // the registers that are in use
	most    int
	names   map[string]plainName // what is declared
	known   map[int]int          // the registers of declarations
}

// plainName is what a name stands for: its register, and the shape of a variable, or of a value.
type plainName struct {
	reg    int
	kind   string // int, var or value
	shape  string
	number int // the node
}

// result is a register in which a result is; if it has been taken for this it is spent when it has been used.
type result struct {
	reg   int
	taken bool
}

// read returns the code of a module.
func read(u api.Tree) *plain {
	p := &plain{all: pieces(u)}
	p.tables, _ = check.Tables(u)
	for _, table := range p.tables {
		s, _ := order.Text(table)
		p.head = append(p.head, s)
	}
	for _, x := range p.all {
		if x.is(api.FlagType, api.MaxType, api.SetType, api.OnceType, api.NamedType, api.MapType, api.PairType) && !slices.Contains(p.shapes, shapeText(x)) {
			p.shapes = append(p.shapes, shapeText(x))
			p.head = append(p.head, "shape "+shapeText(x))
		}
	}
	for _, x := range p.all {
		if x.is(api.UseItem) {
			l := []string{"use", x.Text}
			for _, kid := range x.kids {
				l = append(l, p.kindText(kid))
			}
			p.head = append(p.head, strings.Join(l, " "))
		}
	}
	for _, x := range p.all[0].kids {
		if !x.is(api.TaskItem) {
			continue
		}
		names := map[string]plainName{}
		for y := range x.in {
			p.declare(names, y)
		}
		eachs := 0
		p.homes = append(p.homes, p.segment(x, x.Text, names))
		for y := range x.in {
			if y.is(api.EachStmt) {
				p.homes = append(p.homes, p.segment(y, x.Text+"."+strconv.Itoa(eachs), names))
				eachs++
			}
		}
	}
	return p
}

// shapeText returns the text of a shape.
func shapeText(x *piece) string {
	switch x.Kind {
	case api.FlagType:
		return "flag"
	case api.MaxType:
		return "max"
	case api.SetType:
		return "set"
	case api.OnceType:
		return "once"
	case api.MapType:
		return "map(" + shapeText(x.kids[0]) + ")"
	case api.PairType:
		return "pair(" + shapeText(x.kids[0]) + ", " + shapeText(x.kids[1]) + ")"
	}
	return x.Text
}

// s returns the text of the number of a shape.
func (p *plain) s(shape string) string {
	return "s" + strconv.Itoa(slices.Index(p.shapes, shape))
}

// kindText returns the text of the kind that a type is.
func (p *plain) kindText(x *piece) string {
	if x.is(api.IntType) {
		return "int"
	}
	return p.s(shapeText(x))
}

// declare notes what a node declares.
func (p *plain) declare(names map[string]plainName, x *piece) {
	d := plainName{kind: "int", number: x.n}
	switch {
	case x.is(api.NewStmt, api.ShareStmt), x.is(api.ParamNode) && !x.kids[0].is(api.IntType):
		d.kind, d.shape = "var", shapeText(x.kids[0])
	case x.is(api.BindNode) && x.up.is(api.FreezeStmt):
		d.kind, d.shape = "value", names[x.up.Text].shape
	case !x.is(api.ParamNode, api.LetStmt, api.BindNode):
		return
	}
	names[x.Text] = d
}

// captured returns the names, declared outside of an EachStmt, that nodes in its block mean, in the order of their declarations.
func captured(each *piece, names map[string]plainName) []string {
	met := map[string]bool{}
	for x := range each.last().in {
		if x.is(api.PutStmt, api.WhenStmt, api.EachStmt, api.FreezeStmt, api.NameNode, api.SizeNode, api.HasNode, api.ValueNode) && names[x.Text].number < each.n {
			met[x.Text] = true
		}
	}
	return slices.SortedFunc(maps.Keys(met), func(a, b string) int { return names[a].number - names[b].number })
}

// segment returns the segment of a home.
func (p *plain) segment(home *piece, name string, all map[string]plainName) *plainHome {
	h := &plainHome{plain: p, home: home, name: name, labels: map[string]int{}, busy: map[int]bool{}, names: maps.Clone(all), known: map[int]int{}}
	var params []string
	if home.is(api.TaskItem) {
		for _, x := range home.kidsOf(api.ParamNode) {
			params = append(params, x.Text)
		}
	} else {
		params = append(captured(home, all), home.kids[0].Text)
	}
	for _, s := range params {
		h.names[s] = h.at(s, h.take())
		switch d := h.names[s]; d.kind {
		case "int":
			h.params = append(h.params, "int")
		case "var":
			h.params = append(h.params, p.s(d.shape))
		case "value":
			h.params = append(h.params, "v"+p.s(d.shape)[1:])
		}
	}
	h.block(home.last())
	h.line(home, "halt")
	h.most = max(h.most, 1)
	return h
}

// at returns what a name stands for, with its register.
func (h *plainHome) at(name string, reg int) plainName {
	d := h.names[name]
	d.reg = reg
	h.known[d.number] = reg
	return d
}

// take takes the first register that is not in use.
func (h *plainHome) take() int {
	r := 0
	for h.busy[r] {
		r++
	}
	h.busy[r] = true
	h.most = max(h.most, len(h.busy))
	return r
}

// spend gives back the registers that were taken for results.
func (h *plainHome) spend(l ...result) {
	for _, x := range l {
		if x.taken {
			delete(h.busy, x.reg)
		}
	}
}

// r returns the text of a register.
func r(n int) string {
	return "r" + strconv.Itoa(n)
}

// line adds an instruction.
func (h *plainHome) line(origin *piece, words ...string) {
	h.lines = append(h.lines, strings.Join(words, " "))
	h.origins = append(h.origins, origin.n)
}

// mark returns a new label, which stands for a place.
func (h *plainHome) mark() string {
	h.marks++
	return "@" + strconv.Itoa(h.marks) + "@"
}

// put lets a label stand for the place that comes next.
func (h *plainHome) put(label string) {
	h.labels[label] = len(h.lines)
}

// made takes a register for a result, and adds the instruction with it: its first word, the register, the others.
func (h *plainHome) made(origin *piece, word string, words ...string) result {
	out := result{h.take(), true}
	h.line(origin, append([]string{word, r(out.reg)}, words...)...)
	return out
}

// block makes a block, and gives back the registers of what is declared in it.
func (h *plainHome) block(block *piece) {
	before := maps.Clone(h.busy)
	for _, stmt := range block.kids {
		h.stmt(stmt)
	}
	h.busy = before
}

// site returns the text of the site of a statement.
func (h *plainHome) site(stmt *piece) string {
	item := stmt
	for !item.is(api.TaskItem) {
		item = item.up
	}
	out := 0
	for x := range item.in {
		if x == stmt {
			break
		}
		if x.is(api.NewStmt, api.ShareStmt, api.SpawnStmt, api.WhenStmt, api.EachStmt, api.AllStmt, api.FreezeStmt) {
			out++
		}
	}
	return strconv.Itoa(out)
}

// stmt makes a statement.
func (h *plainHome) stmt(x *piece) {
	v := h.names[x.Text]
	switch x.Kind {
	case api.NewStmt:
		h.names[x.Text] = h.at(x.Text, h.made(x, "new", h.s(v.shape), "own", h.site(x)).reg)
	case api.ShareStmt:
		h.names[x.Text] = h.at(x.Text, h.made(x, "new", h.s(v.shape), "shared", h.site(x)).reg)
	case api.LetStmt:
		h.names[x.Text] = h.at(x.Text, h.expr(x.kids[0]).reg)
		h.line(x, "note")
	case api.PutStmt:
		e := h.point(x.kids[0], v.shape)
		h.line(x, "put", r(v.reg), r(e.reg))
		h.spend(e)
	case api.SpawnStmt:
		words := []string{"spawn", x.Text, h.site(x)}
		var l []result
		for _, kid := range x.kids {
			l = append(l, h.expr(kid))
			words = append(words, r(l[len(l)-1].reg))
		}
		h.line(x, words...)
		h.spend(l...)
	case api.WhenStmt:
		h.when(x, v)
	case api.EachStmt:
		words := []string{"each", r(v.reg), h.segmentOf(x), h.site(x)}
		for _, name := range captured(x, h.names) {
			words = append(words, r(h.names[name].reg))
		}
		h.line(x, words...)
	case api.AllStmt:
		h.line(x, "all", h.site(x))
		h.block(x.kids[0])
		h.line(x, "done", h.site(x))
	case api.FreezeStmt:
		h.names[x.kids[0].Text] = h.at(x.kids[0].Text, h.made(x, "freeze", r(v.reg), h.site(x)).reg)
	case api.IfStmt:
		h.branch(x)
	case api.FailStmt:
		n := h.expr(x.kids[0])
		h.line(x, "fail", r(n.reg))
		h.spend(n)
	}
}

// segmentOf returns the name of the segment of an EachStmt.
func (h *plainHome) segmentOf(each *piece) string {
	item, before := each, 0
	for !item.is(api.TaskItem) {
		item = item.up
	}
	for x := range item.in {
		if x.is(api.EachStmt) && x.n < each.n {
			before++
		}
	}
	return item.Text + "." + strconv.Itoa(before)
}

// when makes a WhenStmt.
func (h *plainHome) when(x *piece, v plainName) {
	words := []string{"when", r(v.reg), h.site(x)}
	var l []result
	var labels []string
	for i, kid := range x.kids {
		l = append(l, h.point(kid.kids[0], v.shape))
		labels = append(labels, h.mark())
		words = append(words, r(l[i].reg)+">"+labels[i])
	}
	h.line(x, words...)
	h.spend(l...)
	behind := h.mark()
	for i, kid := range x.kids {
		h.put(labels[i])
		h.block(kid.kids[1])
		if i < len(x.kids)-1 {
			h.line(x, "jump", behind)
		}
	}
	h.put(behind)
}

// branch makes an IfStmt.
func (h *plainHome) branch(x *piece) {
	n := h.expr(x.kids[0])
	h.line(x, "note")
	otherwise, behind := h.mark(), h.mark()
	h.line(x, "zero", r(n.reg), otherwise)
	h.spend(n)
	h.block(x.kids[1])
	if len(x.kids) == 3 {
		h.line(x, "jump", behind)
		h.put(otherwise)
		h.block(x.kids[2])
		h.put(behind)
		return
	}
	h.put(otherwise)
}

// expr makes an expr.
func (h *plainHome) expr(x *piece) result {
	switch {
	case x.is(api.NameNode):
		return result{reg: h.names[x.Text].reg}
	case x.is(api.NumNode):
		return h.made(x, "int", strconv.Itoa(x.N))
	case x.is(api.NegNode) && x.kids[0].is(api.NumNode):
		return h.made(x, "int", strconv.Itoa(0-x.kids[0].N))
	}
	var l []result
	var words []string
	if x.Text != "" {
		words = append(words, r(h.names[x.Text].reg))
	}
	for i, kid := range x.kids {
		l = append(l, h.expr(kid))
		words = append(words, r(l[i].reg))
	}
	h.spend(l...)
	switch x.Kind {
	case api.SizeNode:
		return h.made(x, "size", words...)
	case api.HasNode:
		return h.made(x, "has", words...)
	case api.ValueNode:
		return h.made(x, "value", words...)
	}
	word := map[uint8]string{
		api.EqNode: "eq", api.NeNode: "ne", api.LtNode: "lt", api.LeNode: "le", api.GtNode: "gt", api.GeNode: "ge",
		api.AddNode: "add", api.SubNode: "sub", api.MulNode: "mul", api.DivNode: "div", api.NegNode: "neg",
	}[x.Kind]
	// The word stands behind the register.
	return h.made(x, "arith", append([]string{word}, words...)...)
}

// inner returns the texts of the kids of a shape.
func (p *plain) inner(shape string) []string {
	s, _ := order.ParseShape(shape)
	var out []string
	for _, kid := range s.Kids {
		text, _ := order.ShapeText(kid)
		out = append(out, text)
	}
	return out
}

// point makes a point of a shape.
func (h *plainHome) point(x *piece, shape string) result {
	s := h.s(shape)
	switch x.Kind {
	case api.OnPoint:
		return h.made(x, "on", s)
	case api.NamePoint:
		for _, table := range h.tables {
			if table.Name == shape {
				return h.made(x, "name", s, strconv.Itoa(slices.Index(table.Elems, x.Text)))
			}
		}
	case api.IntPoint:
		n := h.expr(x.kids[0])
		h.spend(n)
		return h.made(x, "point", s, r(n.reg))
	case api.SetPoint:
		n := h.expr(x.kids[0])
		h.spend(n)
		first := h.made(x, "set", s, r(n.reg))
		for _, kid := range x.kids[1:] {
			n := h.expr(kid)
			h.spend(n)
			one := h.made(x, "set", s, r(n.reg))
			h.line(x, "join", r(first.reg), s, r(first.reg), r(one.reg))
			h.spend(one)
		}
		return first
	case api.KeyPoint:
		n := h.expr(x.kids[0])
		e := h.point(x.kids[1], h.inner(shape)[0])
		h.spend(n, e)
		return h.made(x, "key", s, r(n.reg), r(e.reg))
	}
	words := []string{s, "-", "-"}
	var l []result
	for i, kid := range x.kids {
		side := i
		if x.N == 2 {
			side = 1
		}
		l = append(l, h.point(kid, h.inner(shape)[side]))
		words[1+side] = r(l[i].reg)
	}
	h.spend(l...)
	return h.made(x, "pair", words...)
}

// text returns the lines of the segment.
func (h *plainHome) text() string {
	out := strings.Join(append([]string{"segment", h.name, strconv.Itoa(h.most)}, h.params...), " ") + "\n"
	for _, s := range h.lines {
		for label, at := range h.labels {
			s = strings.ReplaceAll(s, label, strconv.Itoa(at))
		}
		out += "  " + s + "\n"
	}
	return out
}

// text returns the text of the module.
func (p *plain) text() string {
	out := ""
	for _, s := range p.head {
		out += s + "\n"
	}
	for _, h := range p.homes {
		out += h.text()
	}
	return out
}

// P8.1 to P8.4: the code of modules is that of a second, plain reading of the chapter.
func TestMade(t *testing.T) {
	kinds := map[uint8]int{}
	for _, u := range testModules(t) {
		want := read(u)
		c := mustCompile(t, u)
		if got := mustText(t, c); got != want.text() {
			t.Fatalf("Compile: %s\nand not\n%s\nof\n%s", got, want.text(), mustPrint(t, u))
		}
		shapes, e := compile.Shapes(u)
		if e != api.OK || !same(shapes, c.Shapes) {
			t.Fatalf("Shapes: %v, %v, and not %v", shapes, e, c.Shapes)
		}
		homes, origins := mustHomes(t, u), mustOrigins(t, u)
		if len(homes) != len(want.homes) || len(origins) != len(want.homes) {
			t.Fatalf("%d homes, %d origins, and not %d of\n%s", len(homes), len(origins), len(want.homes), mustPrint(t, u))
		}
		for i, h := range want.homes {
			if homes[i] != h.home.n || !slices.Equal(origins[i], h.origins) {
				t.Fatalf("Homes: %v; Origins of %d: %v, and not %v of\n%s", homes, i, origins[i], h.origins, mustPrint(t, u))
			}
			for node, reg := range mustRegisters(t, u, homes[i]) {
				known, ok := h.known[node]
				if ok && reg != known || !ok && reg != -1 {
					t.Fatalf("Registers of %s: the node %d has %d, and not %d, %v of\n%s", h.name, node, reg, known, ok, mustPrint(t, u))
				}
			}
		}
		for _, n := range u.Nodes {
			kinds[n.Kind]++
		}
	}
	for kind := api.ProgramNode; kind <= api.ValueNode; kind++ {
		if name := kindName(kind); name != "" && kinds[kind] < 20 {
			t.Errorf("only %d nodes are %s", kinds[kind], name)
		}
	}
}

// kindName returns a name for a kind of nodes that there is.
func kindName(kind uint8) string {
	if kind <= api.CaseNode || kind >= api.IntType && kind <= api.PairType || kind >= api.NewStmt && kind <= api.FailStmt || kind >= api.OnPoint && kind <= api.PairPoint || kind >= api.EqNode {
		return "of the kind " + strconv.Itoa(int(kind))
	}
	return ""
}
