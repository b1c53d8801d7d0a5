package check_test

import (
	"slices"

	"dripstone/api"
	"dripstone/elem"
	"dripstone/order"
)

// piece is a node, with the nodes around it.
type piece struct {
	api.TreeNode
	n    int
	up   *piece
	kids []*piece
}

// plain is a tree that is read as the chapter's definitions say it, with no regard to how long this takes.
type plain struct {
	all    []*piece
	sight  map[*piece][]*piece // the declarations that are in sight
	known  map[*piece]*piece   // what nodes mean, as far as it was asked
	levels map[*piece]*piece   // likewise the levels
}

// newPlain reads a tree whose form is right.
func newPlain(u api.Tree) *plain {
	p := &plain{sight: map[*piece][]*piece{}, known: map[*piece]*piece{}, levels: map[*piece]*piece{}}
	var grow func(up *piece)
	grow = func(up *piece) {
		x := &piece{TreeNode: u.Nodes[len(p.all)], n: len(p.all), up: up}
		p.all = append(p.all, x)
		for len(p.all) < x.n+x.Size {
			kid := len(p.all)
			grow(x)
			x.kids = append(x.kids, p.all[kid])
		}
	}
	grow(nil)
	p.walk(p.all[0], nil)
	return p
}

// walk goes through a node with what is in sight there, and returns what is in sight behind it.
func (p *plain) walk(x *piece, env []*piece) []*piece {
	p.sight[x] = env
	env = slices.Clip(env)
	inner := env
	for _, kid := range x.kids {
		switch {
		case x.Kind == api.TaskItem && kid.Kind == api.ParamNode, x.Kind == api.EachStmt && kid.Kind == api.BindNode:
			inner = append(inner, kid)
		case x.Kind == api.BlockNode:
			inner = p.walk(kid, inner)
		default:
			p.walk(kid, inner)
		}
	}
	switch x.Kind {
	case api.NewStmt, api.ShareStmt, api.LetStmt:
		return append(env, x)
	case api.FreezeStmt:
		return append(env, x.kids[0])
	}
	return env
}

// those returns the nodes of which something holds, ascending.
func (p *plain) those(holds func(x *piece) bool) []*piece {
	var out []*piece
	for _, x := range p.all {
		if holds(x) {
			out = append(out, x)
		}
	}
	return out
}

// is says whether a node is of one of some kinds.
func (x *piece) is(kinds ...uint8) bool {
	return x != nil && slices.Contains(kinds, x.Kind)
}

// in says whether a node lies in another one.
func (x *piece) in(y *piece) bool {
	return y.n < x.n && x.n < y.n+y.Size
}

// block returns the last kid of a node, which is its block.
func (x *piece) block() *piece {
	return x.kids[len(x.kids)-1]
}

// item returns the item in which a node lies, or that it is.
func (x *piece) item() *piece {
	for x.up != nil && x.up.up != nil {
		x = x.up
	}
	return x
}

// level returns the level of a node in a task.
func (p *plain) level(x *piece) *piece {
	if out, ok := p.levels[x]; ok {
		return out
	}
	out := x.item()
	eaches := p.those(func(e *piece) bool { return e.is(api.EachStmt) && x.in(e.block()) })
	if len(eaches) > 0 {
		out = eaches[len(eaches)-1]
	}
	p.levels[x] = out
	return out
}

// pools returns the pools of a node, ascending.
func (p *plain) pools(x *piece) []*piece {
	return p.those(func(a *piece) bool {
		return a.is(api.AllStmt) && x.in(a.block()) && p.level(a) == p.level(x)
	})
}

// isDecl says whether a node is a declaration.
func (x *piece) isDecl() bool {
	return x.is(api.ParamNode, api.NewStmt, api.ShareStmt, api.LetStmt, api.BindNode)
}

// means returns what a node means, or nil.
func (p *plain) means(x *piece) *piece {
	out, ok := p.known[x]
	if !ok {
		out = p.look(x)
		p.known[x] = out
	}
	return out
}

// look finds out what a node means.
func (p *plain) look(x *piece) *piece {
	named := func(l []*piece) *piece {
		for _, y := range l {
			if y.Text == x.Text {
				return y
			}
		}
		return nil
	}
	switch x.Kind {
	case api.PutStmt, api.WhenStmt, api.EachStmt, api.FreezeStmt, api.NameNode, api.SizeNode, api.HasNode, api.ValueNode:
		return named(p.sight[x])
	case api.SpawnStmt:
		return named(p.those(func(y *piece) bool { return y.is(api.UseItem, api.TaskItem) }))
	case api.NamedType:
		return named(p.those(func(y *piece) bool { return y.is(api.LatticeItem) }))
	case api.AboveNode:
		return named(x.item().kids)
	}
	return nil
}

// mustMean says whether a node must mean something.
func (x *piece) mustMean() bool {
	return x.is(api.PutStmt, api.WhenStmt, api.EachStmt, api.FreezeStmt, api.NameNode, api.SizeNode, api.HasNode, api.ValueNode, api.SpawnStmt, api.NamedType, api.AboveNode)
}

// shape returns the shape that a node is.
func (x *piece) shape() api.Shape {
	kinds := map[uint8]uint8{api.FlagType: api.ShapeFlag, api.MaxType: api.ShapeMax, api.SetType: api.ShapeSet, api.OnceType: api.ShapeOnce, api.NamedType: api.ShapeNamed, api.MapType: api.ShapeMap, api.PairType: api.ShapePair}
	out := api.Shape{Kind: kinds[x.Kind], Name: x.Text}
	for _, kid := range x.kids {
		out.Kids = append(out.Kids, kid.shape())
	}
	return out
}

// levels returns how many levels a shape has.
func levels(s api.Shape) int {
	most := 0
	for _, kid := range s.Kids {
		most = max(most, levels(kid))
	}
	return most + 1
}

// typeOf returns the type that a declaration declares.
func (p *plain) typeOf(d *piece) api.Type {
	switch {
	case d == nil:
		return api.Type{}
	case d.is(api.LetStmt), d.is(api.BindNode) && d.up.is(api.EachStmt), d.is(api.ParamNode) && d.kids[0].is(api.IntType):
		return api.Type{Kind: api.TypeInt}
	case d.is(api.NewStmt):
		return api.Type{Kind: api.TypeOwn, Shape: d.kids[0].shape()}
	case d.is(api.ShareStmt, api.ParamNode):
		return api.Type{Kind: api.TypeShared, Shape: d.kids[0].shape()}
	case d.is(api.BindNode):
		return api.Type{Kind: api.TypeFrozen, Shape: p.typeOf(p.means(d.up)).Shape}
	}
	return api.Type{}
}

// isVariable says whether a type is that of a variable.
func isVariable(x api.Type) bool {
	return x.Kind == api.TypeOwn || x.Kind == api.TypeShared
}

// own says whether a declaration is that of a variable that is own at a node.
func (p *plain) own(d, x *piece) bool {
	return d.is(api.NewStmt) && p.level(d) == p.level(x)
}

// tables returns the tables.
func (p *plain) tables() []api.Table {
	var out []api.Table
	for _, x := range p.those(func(x *piece) bool { return x.is(api.LatticeItem) }) {
		table := api.Table{Name: x.Text}
		for _, e := range x.kids {
			var above []int
			for i, other := range x.kids {
				if slices.ContainsFunc(e.kids, func(a *piece) bool { return a.Text == other.Text }) {
					above = append(above, i)
				}
			}
			table.Elems, table.Above, table.Wrong = append(table.Elems, e.Text), append(table.Above, above), append(table.Wrong, e.N == 1)
		}
		out = append(out, table)
	}
	return out
}

// named returns the number of the element that a NamePoint names in the table of a shape, or -1; and the node.
func (p *plain) named(point *piece, s api.Shape) (int, *piece) {
	for _, x := range p.those(func(x *piece) bool { return x.is(api.LatticeItem) && x.Text == s.Name }) {
		for i, e := range x.kids {
			if e.Text == point.Text {
				return i, e
			}
		}
	}
	return -1, nil
}

// parts returns the points that are kids of a point, with the shapes for which they are, if the point fits the shape itself.
func (p *plain) parts(point *piece, s api.Shape) (kids []*piece, shapes []api.Shape, fits bool) {
	switch point.Kind {
	case api.OnPoint:
		return nil, nil, s.Kind == api.ShapeFlag
	case api.IntPoint:
		return nil, nil, s.Kind == api.ShapeMax || s.Kind == api.ShapeOnce
	case api.SetPoint:
		return nil, nil, s.Kind == api.ShapeSet
	case api.NamePoint:
		n, _ := p.named(point, s)
		return nil, nil, s.Kind == api.ShapeNamed && n > 0
	case api.KeyPoint:
		if s.Kind == api.ShapeMap {
			return point.kids[1:], s.Kids, true
		}
	case api.PairPoint:
		if s.Kind == api.ShapePair {
			return point.kids, map[int][]api.Shape{1: s.Kids[:1], 2: s.Kids[1:], 3: s.Kids}[point.N], true
		}
	}
	return nil, nil, false
}

// misfit returns the first one of a point and those in it that does not fit, or nil.
func (p *plain) misfit(point *piece, s api.Shape) *piece {
	kids, shapes, fits := p.parts(point, s)
	if !fits {
		return point
	}
	for i, kid := range kids {
		if x := p.misfit(kid, shapes[i]); x != nil {
			return x
		}
	}
	return nil
}

// integer returns the integer of an expr that is constant, otherwise 0.
func (x *piece) integer() (int, bool) {
	switch {
	case x.is(api.NumNode):
		return x.N, true
	case x.is(api.NegNode) && x.kids[0].is(api.NumNode):
		return -x.kids[0].N, true
	}
	return 0, false
}

// element returns the element of a point, and whether this is constant.
func (p *plain) element(point *piece, s api.Shape) (api.Elem, bool) {
	kids, shapes, _ := p.parts(point, s)
	constant := true
	var ints []int
	for _, x := range point.kids {
		if x.Kind >= api.EqNode {
			n, ok := x.integer()
			ints = append(ints, n)
			constant = constant && ok
		}
	}
	var elems []api.Elem
	for i, kid := range kids {
		x, ok := p.element(kid, shapes[i])
		elems = append(elems, x)
		constant = constant && ok
	}
	switch point.Kind {
	case api.IntPoint:
		return api.Elem{Kind: api.ElemInt, N: ints[0]}, constant
	case api.SetPoint:
		slices.Sort(ints)
		return api.Elem{Kind: api.ElemSet, Keys: slices.Compact(ints)}, constant
	case api.NamePoint:
		n, _ := p.named(point, s)
		return api.Elem{Kind: api.ElemName, N: n}, true
	case api.KeyPoint:
		return api.Elem{Kind: api.ElemMap, Keys: ints, Kids: elems}, constant
	case api.PairPoint:
		switch point.N {
		case 1:
			elems = append(elems, api.Elem{})
		case 2:
			elems = append([]api.Elem{{}}, elems...)
		}
		return api.Elem{Kind: api.ElemPair, Kids: elems}, constant
	}
	return api.Elem{Kind: api.ElemOn}, true
}

// pointsOf returns the points of a PutStmt or a WhenStmt.
func (x *piece) pointsOf() []*piece {
	if x.is(api.PutStmt) {
		return x.kids
	}
	var out []*piece
	for _, kid := range x.kids {
		out = append(out, kid.kids[0])
	}
	return out
}

// elements returns the elements of the points of a PutStmt or a WhenStmt, and whether they are constant.
func (p *plain) elements(x *piece) ([]api.Elem, bool) {
	all := true
	var out []api.Elem
	for _, point := range x.pointsOf() {
		e, ok := p.element(point, p.typeOf(p.means(x)).Shape)
		out = append(out, e)
		all = all && ok
	}
	return out, all
}

// pointMeans returns what a node means, also if it is a NamePoint.
func (p *plain) pointMeans(x *piece) *piece {
	if !x.is(api.NamePoint) {
		return p.means(x)
	}
	var out *piece
	var look func(point *piece, s api.Shape)
	look = func(point *piece, s api.Shape) {
		if point == x {
			_, out = p.named(x, s)
		}
		kids, shapes, _ := p.parts(point, s)
		for i, kid := range kids {
			look(kid, shapes[i])
		}
	}
	for _, stmt := range p.those(func(y *piece) bool { return y.is(api.PutStmt, api.WhenStmt) }) {
		for _, point := range stmt.pointsOf() {
			look(point, p.typeOf(p.means(stmt)).Shape)
		}
	}
	return out
}

// paramTypes returns the types of the parameters of an item.
func (x *piece) paramTypes() []*piece {
	if x.is(api.UseItem) {
		return x.kids
	}
	var out []*piece
	for _, kid := range x.kids[:len(x.kids)-1] {
		out = append(out, kid.kids[0])
	}
	return out
}

// passed returns the own variables that a statement passes on.
func (p *plain) passed(x *piece) []*piece {
	var out []*piece
	add := func(y *piece) {
		if d := p.means(y); p.own(d, x) && !slices.Contains(out, d) {
			out = append(out, d)
		}
	}
	if x.is(api.SpawnStmt) {
		for _, kid := range x.kids {
			if kid.is(api.NameNode) {
				add(kid)
			}
		}
	}
	if x.is(api.EachStmt) {
		add(x)
		for _, y := range p.those(func(y *piece) bool { return y.in(x.block()) }) {
			add(y)
		}
	}
	return out
}

// passers returns the statements that pass on the variable of a statement, with smaller numbers, of the same level.
func (p *plain) passers(x *piece) []*piece {
	return p.those(func(y *piece) bool {
		return y.n < x.n && y.item() == x.item() && p.level(y) == p.level(x) && slices.Contains(p.passed(y), p.means(x))
	})
}

// sites returns the sites of a task.
func (p *plain) sites(task *piece) []*piece {
	return p.those(func(x *piece) bool {
		return x.in(task) && x.is(api.NewStmt, api.ShareStmt, api.SpawnStmt, api.WhenStmt, api.EachStmt, api.AllStmt, api.FreezeStmt)
	})
}

// captured returns the declarations outside of an EachStmt that nodes in its block mean.
func (p *plain) captured(each *piece) []*piece {
	return p.those(func(d *piece) bool {
		return d.isDecl() && !d.in(each) && len(p.those(func(x *piece) bool { return x.in(each.block()) && p.means(x) == d })) > 0
	})
}

// effect returns what an item may do: it is searched in all items that it spawns, and that these spawn.
func (p *plain) effect(item *piece) api.Effect {
	var out api.Effect
	tasks := p.spawned(item)
	if item.is(api.UseItem) {
		tasks = []*piece{item}
	}
	for _, task := range tasks {
		inside := func(kinds ...uint8) bool {
			return len(p.those(func(x *piece) bool { return x.in(task) && x.is(kinds...) })) > 0
		}
		out.Fails = out.Fails || task.is(api.UseItem) || inside(api.FailStmt, api.AddNode, api.SubNode, api.MulNode, api.DivNode)
		if task == item {
			out.Spawns = task.is(api.UseItem) || inside(api.SpawnStmt, api.EachStmt)
		}
	}
	for i := range item.paramTypes() {
		out.Puts = append(out.Puts, p.reaches(item, i, api.PutStmt, map[[2]int]bool{}))
		out.Waits = append(out.Waits, p.reaches(item, i, api.WhenStmt, map[[2]int]bool{}))
	}
	return out
}

// spawned returns an item, and all that it spawns, or these, and so on.
func (p *plain) spawned(item *piece) []*piece {
	out := []*piece{item}
	for i := 0; i < len(out); i++ {
		for _, x := range p.those(func(x *piece) bool { return x.in(out[i]) && x.is(api.SpawnStmt) }) {
			if callee := p.means(x); !slices.Contains(out, callee) {
				out = append(out, callee)
			}
		}
	}
	return out
}

// reaches says whether a parameter gets, from task to task, to a statement of a kind, or to a use.
func (p *plain) reaches(item *piece, param int, kind uint8, met map[[2]int]bool) bool {
	if met[[2]int{item.n, param}] {
		return false
	}
	met[[2]int{item.n, param}] = true
	if item.is(api.UseItem) {
		return true
	}
	for _, x := range p.those(func(x *piece) bool { return x.in(item) }) {
		if x.is(kind) && p.means(x) == item.kids[param] {
			return true
		}
		if x.is(api.NameNode) && x.up.is(api.SpawnStmt) && p.means(x) == item.kids[param] {
			if p.reaches(p.means(x.up), slices.Index(x.up.kids, x), kind, met) {
				return true
			}
		}
	}
	return false
}

// flaw is an error of a module: at which node, and which clause of the chapter says so.
type flaw struct {
	n      int
	e      api.Errno
	clause string
}

// flaws returns the errors of the first group that has any, in the order in which the chapter names them.
func (p *plain) flaws() []flaw {
	for _, group := range []func(add func(x *piece, e api.Errno, clause string, is bool)){p.names, p.types, p.growth} {
		var out []flaw
		group(func(x *piece, e api.Errno, clause string, is bool) {
			if is {
				out = append(out, flaw{x.n, e, clause})
			}
		})
		if len(out) > 0 {
			return out
		}
	}
	return nil
}

// verdict returns the first flaw of a module, at the first node; if there is none, the zero one.
func (p *plain) verdict() flaw {
	var out flaw
	for i, f := range p.flaws() {
		if i == 0 || f.n < out.n {
			out = f
		}
	}
	return out
}

// names tells the errors of names.
func (p *plain) names(add func(x *piece, e api.Errno, clause string, is bool)) {
	twice := func(clause string, same func(x, y *piece) bool) {
		for _, x := range p.all {
			if x.Text == "" {
				continue
			}
			earlier := p.those(func(y *piece) bool { return y.n < x.n && y.Text == x.Text && same(x, y) })
			add(x, api.ErrTwice, clause, len(earlier) > 0)
		}
	}
	twice("a lattice twice", func(x, y *piece) bool { return x.is(api.LatticeItem) && y.is(api.LatticeItem) })
	twice("a task twice", func(x, y *piece) bool {
		return x.is(api.UseItem, api.TaskItem) && y.is(api.UseItem, api.TaskItem)
	})
	twice("an elem twice", func(x, y *piece) bool { return x.is(api.ElemNode) && y.is(api.ElemNode) && x.up == y.up })
	twice("a declaration twice", func(x, y *piece) bool { return x.isDecl() && y.isDecl() && x.item() == y.item() })
	for _, x := range p.all {
		add(x, api.ErrName, "no name: "+kindName(x.Kind), x.mustMean() && p.means(x) == nil)
	}
}

// types tells the errors of types.
func (p *plain) types(add func(x *piece, e api.Errno, clause string, is bool)) {
	tables := p.tables()
	number := 0
	for _, x := range p.all {
		if x.is(api.LatticeItem) {
			_, e := order.Prove(tables[number])
			add(x, api.ErrLimit, "tables", number >= api.MaxTables)
			add(x, api.ErrFalse, "no lattice", e != api.OK)
			number++
		}
		if x.up.is(api.ParamNode, api.UseItem, api.NewStmt, api.ShareStmt) && !x.is(api.IntType, api.BlockNode) {
			add(x, api.ErrLimit, "levels", levels(x.shape()) > api.MaxLevels)
		}
		d := p.typeOf(p.means(x))
		shape := d.Shape.Kind
		if x.is(api.PutStmt, api.WhenStmt, api.EachStmt, api.FreezeStmt) {
			add(x, api.ErrType, "no variable", !isVariable(d))
			add(x, api.ErrType, "no keys", x.is(api.EachStmt) && isVariable(d) && shape != api.ShapeSet && shape != api.ShapeMap)
		}
		if x.is(api.PutStmt, api.WhenStmt) && isVariable(d) {
			for _, point := range x.pointsOf() {
				if y := p.misfit(point, d.Shape); y != nil {
					add(y, api.ErrType, "a point: "+kindName(y.Kind), true)
				}
			}
		}
		frozen := d.Kind == api.TypeFrozen
		add(x, api.ErrType, "no size", x.is(api.SizeNode, api.HasNode) && (!frozen || shape != api.ShapeSet && shape != api.ShapeMap))
		add(x, api.ErrType, "no value", x.is(api.ValueNode) && (!frozen || shape != api.ShapeMax && shape != api.ShapeOnce))
		if x.is(api.NameNode) && !p.forVariable(x) {
			add(x, api.ErrType, "no integer", d.Kind != api.TypeInt)
		}
		if x.is(api.SpawnStmt) {
			p.arguments(x, add)
		}
	}
}

// forVariable says whether a node is handed over for a parameter that is a variable.
func (p *plain) forVariable(x *piece) bool {
	if !x.up.is(api.SpawnStmt) {
		return false
	}
	params := p.means(x.up).paramTypes()
	i := slices.Index(x.up.kids, x)
	return i < len(params) && !params[i].is(api.IntType)
}

// arguments tells the errors of a SpawnStmt.
func (p *plain) arguments(x *piece, add func(x *piece, e api.Errno, clause string, is bool)) {
	params := p.means(x).paramTypes()
	add(x, api.ErrType, "arguments", len(params) != len(x.kids))
	for i := range min(len(params), len(x.kids)) {
		if !params[i].is(api.IntType) {
			d := p.typeOf(p.means(x.kids[i]))
			fits := x.kids[i].is(api.NameNode) && isVariable(d) && sameShape(d.Shape, params[i].shape())
			add(x.kids[i], api.ErrType, "an argument: "+kindName(x.kids[i].Kind), !fits)
		}
	}
}

// growth tells the errors of growth.
func (p *plain) growth(add func(x *piece, e api.Errno, clause string, is bool)) {
	for _, x := range p.all {
		d := p.means(x)
		pools := p.pools(x)
		if x.is(api.EachStmt, api.FreezeStmt) {
			add(x, api.ErrState, "a: not own", !p.own(d, x))
			add(x, api.ErrState, "a: no pool", x.is(api.EachStmt) && len(pools) == 0)
		}
		add(x, api.ErrState, "b", x.is(api.NameNode) && x.up.is(api.SpawnStmt) && p.own(d, x) && len(pools) == 0)
		if x.is(api.EachStmt, api.FreezeStmt) {
			for _, y := range p.passers(x) {
				around := p.pools(y)
				if len(around) > 0 {
					innermost := around[len(around)-1]
					open := slices.Contains(pools, innermost)
					if x.is(api.EachStmt) {
						open = open && innermost != pools[len(pools)-1]
					}
					add(x, api.ErrState, "c: "+kindName(x.Kind)+" behind "+kindName(y.Kind), open)
				}
			}
		}
		for _, y := range p.those(func(y *piece) bool { return y.is(api.FreezeStmt) && p.means(y) == d && d != nil }) {
			add(x, api.ErrState, "d: "+kindName(x.Kind), x.n > y.n)
		}
		if x.is(api.CaseNode) {
			p.caseFlaws(x, add)
		}
	}
}

// caseFlaws tells the errors of a CaseNode.
func (p *plain) caseFlaws(x *piece, add func(x *piece, e api.Errno, clause string, is bool)) {
	u := api.Lattice{Tables: p.tables(), Shape: p.typeOf(p.means(x.up)).Shape}
	element, constant := p.element(x.kids[0], u.Shape)
	add(x, api.ErrFalse, "e: not constant", len(x.up.kids) > 1 && !constant)
	wrong, e := elem.IsWrong(u, element)
	if e != api.OK {
		panic("an element that is none")
	}
	add(x, api.ErrFalse, "e: wrong", wrong)
	for _, y := range x.up.kids {
		if y.n < x.n {
			other, _ := p.element(y.kids[0], u.Shape)
			join, _ := elem.Join(u, other, element)
			excludes, _ := elem.IsWrong(u, join)
			add(x, api.ErrFalse, "e: no exclusion", !excludes)
		}
	}
}
