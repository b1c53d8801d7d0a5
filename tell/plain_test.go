package tell_test

import (
	"cmp"
	"slices"

	"dripstone/api"
	"dripstone/check"
	"dripstone/elem"
)

// piece is a node, with the nodes around it.
type piece struct {
	api.TreeNode
	n    int
	up   *piece
	kids []*piece
}

// plain is an execution as the chapter's definitions say it: all is found out again whenever it is asked.
type plain struct {
	all    []*piece
	tables []api.Table
	jobs   []*plainJob
	vars   []api.VarState
	outs   []*plainOut
	events []api.Event
	steps  int
}

// plainJob is a task.
type plainJob struct {
	number int
	path   []api.Hop
	home   *piece
	by     int
	env    map[string]plainValue
	todo   []plainTodo
	own    []*plainPool // its own pools that are open
	in     []*plainPool // those of which it is a member
	done   bool         // it has ended or failed
	fails  []int
}

// plainValue is what a name stands for.
type plainValue struct {
	n      int
	frozen api.Elem
}

// plainTodo is a statement, or the end of the block of a pool.
type plainTodo struct {
	stmt *piece
	ends *plainPool
}

// plainPool is a pool.
type plainPool struct {
	stmt   *piece
	closed bool
}

// plainOut is a look-out, with the keys for which it has spawned tasks.
type plainOut struct {
	stmt *piece
	job  *plainJob
	env  map[string]plainValue
	v    int
	in   []*plainPool
	pool *plainPool
	had  []int
}

// plainFault is thrown by an expr that fails, plainError by an execution that has an error.
type plainFault struct{ node, n int }

type plainError struct{ e api.Errno }

// newPlain returns an execution of a program in which nothing is done.
func newPlain(u api.Tree, in []int) *plain {
	p := &plain{}
	p.tables, _ = check.Tables(u)
	var grow func(up *piece)
	grow = func(up *piece) {
		x := &piece{TreeNode: u.Nodes[len(p.all)], n: len(p.all), up: up}
		p.all = append(p.all, x)
		for len(p.all) < x.n+x.Size {
			kid := len(p.all)
			grow(x)
			x.kids = append(x.kids, p.all[kid])
		}
	}
	grow(nil)
	for _, x := range p.all[0].kids {
		if x.Kind == api.TaskItem && x.Text == "main" {
			env := map[string]plainValue{}
			for i, n := range in {
				env[x.kids[i].Text] = plainValue{n: n}
			}
			p.arrive(&plainJob{home: x, by: -1, env: env})
		}
	}
	return p
}

// site returns which site of its item a node is.
func (p *plain) site(x *piece) int {
	item := x
	for item.up.up != nil {
		item = item.up
	}
	count := 0
	for _, y := range p.all[item.n:x.n] {
		if slices.Contains([]uint8{api.NewStmt, api.ShareStmt, api.SpawnStmt, api.WhenStmt, api.EachStmt, api.AllStmt, api.FreezeStmt}, y.Kind) {
			count++
		}
	}
	return count
}

// todos returns what is to be done of a block.
func todos(block *piece) []plainTodo {
	var out []plainTodo
	for _, stmt := range block.kids {
		out = append(out, plainTodo{stmt: stmt})
	}
	return out
}

// arrive lets a task come.
func (p *plain) arrive(j *plainJob) {
	if len(p.jobs) >= api.MaxTasks {
		panic(plainError{api.ErrLimit})
	}
	j.number = len(p.jobs)
	j.todo = todos(j.home.kids[len(j.home.kids)-1])
	p.jobs = append(p.jobs, j)
	p.comes(j)
}

// comes lets a task come into pools, or to its end.
func (p *plain) comes(j *plainJob) {
	for len(j.todo) > 0 && j.todo[0].stmt != nil && j.todo[0].stmt.Kind == api.AllStmt {
		stmt := j.todo[0].stmt
		pool := &plainPool{stmt: stmt}
		j.own = append(j.own, pool)
		j.todo = slices.Concat(todos(stmt.kids[0]), []plainTodo{{ends: pool}}, j.todo[1:])
	}
	if len(j.todo) == 0 && !j.done {
		j.done = true
		p.events = append(p.events, api.Event{Kind: api.EventEnd, Task: j.number, Node: j.home.n})
	}
}

// expr returns the integer of an expr, or throws a fault.
func (p *plain) expr(j *plainJob, x *piece) int {
	var l []int
	for _, kid := range x.kids {
		l = append(l, p.expr(j, kid))
	}
	truth := func(b bool) int { return map[bool]int{true: 1}[b] }
	n := 0
	switch x.Kind {
	case api.NumNode:
		n = x.N
	case api.NameNode:
		n = j.env[x.Text].n
	case api.NegNode:
		n = 0 - l[0]
	case api.AddNode:
		n = l[0] + l[1]
	case api.SubNode:
		n = l[0] - l[1]
	case api.MulNode:
		n = l[0] * l[1]
	case api.DivNode:
		if l[1] == 0 {
			panic(plainFault{x.n, -1})
		}
		n = l[0] / l[1]
	case api.EqNode, api.NeNode, api.LtNode, api.LeNode, api.GtNode, api.GeNode:
		signs := map[uint8][]int{api.EqNode: {0}, api.NeNode: {-1, 1}, api.LtNode: {-1}, api.LeNode: {-1, 0}, api.GtNode: {1}, api.GeNode: {1, 0}}
		n = truth(slices.Contains(signs[x.Kind], cmp.Compare(l[0], l[1])))
	case api.SizeNode:
		n = len(j.env[x.Text].frozen.Keys)
	case api.HasNode:
		n = truth(slices.Contains(j.env[x.Text].frozen.Keys, l[0]))
	case api.ValueNode:
		n = l[0]
		if e := j.env[x.Text].frozen; e.Kind == api.ElemInt {
			n = e.N
		}
	}
	if n > 1000000000 || n < -1000000000 {
		panic(plainFault{x.n, -2})
	}
	return n
}

// point returns the element of a point for a shape, or throws a fault.
func (p *plain) point(j *plainJob, x *piece, s api.Shape) api.Elem {
	switch x.Kind {
	case api.IntPoint:
		return api.Elem{Kind: api.ElemInt, N: p.expr(j, x.kids[0])}
	case api.SetPoint:
		out := api.Elem{Kind: api.ElemSet}
		for _, kid := range x.kids {
			if n := p.expr(j, kid); !slices.Contains(out.Keys, n) {
				out.Keys = append(out.Keys, n)
			}
		}
		slices.Sort(out.Keys)
		return out
	case api.NamePoint:
		for _, l := range p.tables {
			if l.Name == s.Name {
				return api.Elem{Kind: api.ElemName, N: slices.Index(l.Elems, x.Text)}
			}
		}
	case api.KeyPoint:
		return api.Elem{Kind: api.ElemMap, Keys: []int{p.expr(j, x.kids[0])}, Kids: []api.Elem{p.point(j, x.kids[1], s.Kids[0])}}
	case api.PairPoint:
		out := api.Elem{Kind: api.ElemPair, Kids: []api.Elem{{}, {}}}
		switch x.N {
		case 1:
			out.Kids[0] = p.point(j, x.kids[0], s.Kids[0])
		case 2:
			out.Kids[1] = p.point(j, x.kids[0], s.Kids[1])
		case 3:
			out.Kids[0] = p.point(j, x.kids[0], s.Kids[0])
			out.Kids[1] = p.point(j, x.kids[1], s.Kids[1])
		}
		return out
	}
	return api.Elem{Kind: api.ElemOn}
}

// shape returns the shape that a node is.
func (x *piece) shape() api.Shape {
	kinds := map[uint8]uint8{api.FlagType: api.ShapeFlag, api.MaxType: api.ShapeMax, api.SetType: api.ShapeSet, api.OnceType: api.ShapeOnce, api.NamedType: api.ShapeNamed, api.MapType: api.ShapeMap, api.PairType: api.ShapePair}
	out := api.Shape{Kind: kinds[x.Kind], Name: x.Text}
	for _, kid := range x.kids {
		out.Kids = append(out.Kids, kid.shape())
	}
	return out
}

// faulty returns what is thrown by something that works out exprs.
func faulty(do func()) (out *plainFault) {
	defer func() {
		if r := recover(); r != nil {
			f, ok := r.(plainFault)
			if !ok {
				panic(r)
			}
			out = &f
		}
	}()
	do()
	return nil
}

// holds returns the first case of a WhenStmt that holds, -1 if none does.
func (p *plain) holds(j *plainJob, stmt *piece) (int, api.Elem) {
	v := p.vars[j.env[stmt.Text].n]
	found, out := -1, api.Elem{}
	for i, c := range stmt.kids {
		e := p.point(j, c.kids[0], v.Shape)
		is, err := elem.Below(api.Lattice{Tables: p.tables, Shape: v.Shape}, e, v.E)
		if err != api.OK {
			panic("the point is no element")
		}
		if is && found < 0 {
			found, out = i, e
		}
	}
	return found, out
}

// quiet says whether all members of a pool have ended or failed.
func (p *plain) quiet(pool *plainPool) bool {
	for _, j := range p.jobs {
		if slices.Contains(j.in, pool) && !j.done {
			return false
		}
	}
	return true
}

// can says whether a task can go on.
func (p *plain) can(j *plainJob) bool {
	if j.done {
		return false
	}
	next := j.todo[0]
	if next.ends != nil {
		return p.quiet(next.ends)
	}
	if next.stmt.Kind != api.WhenStmt {
		return true
	}
	held := -1
	f := faulty(func() { held, _ = p.holds(j, next.stmt) })
	return f != nil || held >= 0
}

// ready returns the tasks that can go on.
func (p *plain) ready() []*plainJob {
	var out []*plainJob
	for _, j := range p.jobs {
		if p.can(j) {
			out = append(out, j)
		}
	}
	return out
}

// fails says whether a task that can go on fails by an expr.
func (p *plain) fails(j *plainJob) bool {
	next := j.todo[0]
	if next.ends != nil {
		return false
	}
	return faulty(func() { p.workOut(j, next.stmt) }) != nil
}

// workOut works out all exprs and points of a statement.
func (p *plain) workOut(j *plainJob, stmt *piece) (ints []int, e api.Elem) {
	switch stmt.Kind {
	case api.LetStmt, api.SpawnStmt, api.FailStmt:
		for _, kid := range stmt.kids {
			ints = append(ints, p.expr(j, kid))
		}
	case api.IfStmt:
		ints = []int{p.expr(j, stmt.kids[0])}
	case api.PutStmt:
		e = p.point(j, stmt.kids[0], p.vars[j.env[stmt.Text].n].Shape)
	case api.WhenStmt:
		p.holds(j, stmt)
	}
	return ints, e
}

// event notes an event.
func (p *plain) event(kind uint8, j *plainJob, node *piece, v, n int, e api.Elem) {
	p.events = append(p.events, api.Event{Kind: kind, Task: j.number, Node: node.n, Var: v, N: n, E: e})
}

// step does the next statement of a task, or lets it fail.
func (p *plain) step(j *plainJob) {
	next := j.todo[0]
	if next.ends == nil {
		if f := faulty(func() { p.workOut(j, next.stmt) }); f != nil {
			j.done, j.fails = true, []int{f.n}
			p.event(api.EventFail, j, p.all[f.node], 0, f.n, api.Elem{})
			return
		}
	}
	if p.steps == api.MaxSteps {
		panic(plainError{api.ErrLimit})
	}
	p.steps++
	j.todo = j.todo[1:]
	if next.ends != nil {
		next.ends.closed = true
		j.own = j.own[:len(j.own)-1]
		p.event(api.EventQuiet, j, next.ends.stmt, 0, 0, api.Elem{})
	} else {
		p.do(j, next.stmt)
	}
	if !j.done {
		p.comes(j)
	}
}

// do does a statement.
func (p *plain) do(j *plainJob, x *piece) {
	ints, e := p.workOut(j, x)
	v := j.env[x.Text].n
	switch x.Kind {
	case api.NewStmt, api.ShareStmt:
		if len(p.vars) >= api.MaxVars {
			panic(plainError{api.ErrLimit})
		}
		p.event(api.EventMake, j, x, len(p.vars), 0, api.Elem{})
		j.env[x.Text] = plainValue{n: len(p.vars)}
		p.vars = append(p.vars, api.VarState{Path: j.path, Site: p.site(x), Shape: x.kids[0].shape()})
	case api.LetStmt:
		p.event(api.EventStep, j, x, 0, ints[0], api.Elem{})
		j.env[x.Text] = plainValue{n: ints[0]}
	case api.PutStmt:
		p.put(j, x, v, e)
	case api.SpawnStmt:
		p.event(api.EventSpawn, j, x, 0, len(p.jobs), api.Elem{})
		for _, item := range p.all[0].kids {
			if item.Kind == api.TaskItem && item.Text == x.Text {
				env := map[string]plainValue{}
				for i, n := range ints {
					env[item.kids[i].Text] = plainValue{n: n}
				}
				p.arrive(&plainJob{path: slices.Concat(j.path, []api.Hop{{Site: p.site(x)}}), home: item, by: len(p.events) - 1, env: env, in: slices.Concat(j.in, j.own)})
			}
		}
	case api.WhenStmt:
		i, e := p.holds(j, x)
		p.event(api.EventWake, j, x, v, i, e)
		j.todo = slices.Concat(todos(x.kids[i].kids[1]), j.todo)
	case api.EachStmt:
		p.event(api.EventEach, j, x, v, 0, api.Elem{})
		env := map[string]plainValue{}
		for name, value := range j.env {
			env[name] = value
		}
		p.outs = append(p.outs, &plainOut{stmt: x, job: j, env: env, v: v, in: slices.Concat(j.in, j.own), pool: j.own[len(j.own)-1]})
		p.lookOut()
	case api.FreezeStmt:
		p.event(api.EventRead, j, x, v, 0, p.vars[v].E)
		j.env[x.kids[0].Text] = plainValue{frozen: p.vars[v].E}
	case api.IfStmt:
		p.event(api.EventStep, j, x, 0, ints[0], api.Elem{})
		if ints[0] != 0 {
			j.todo = slices.Concat(todos(x.kids[1]), j.todo)
		} else if len(x.kids) == 3 {
			j.todo = slices.Concat(todos(x.kids[2]), j.todo)
		}
	case api.FailStmt:
		p.event(api.EventFail, j, x, 0, ints[0], api.Elem{})
		j.done, j.fails = true, ints
	}
}

// put joins an element into a variable.
func (p *plain) put(j *plainJob, x *piece, v int, e api.Elem) {
	l := api.Lattice{Tables: p.tables, Shape: p.vars[v].Shape}
	joined, err := elem.Join(l, p.vars[v].E, e)
	if err != api.OK {
		panic(plainError{err})
	}
	if wrong, _ := elem.IsWrong(l, joined); wrong {
		panic(plainError{api.ErrFail})
	}
	p.event(api.EventJoin, j, x, v, 0, e)
	p.vars[v].E = joined
	p.lookOut()
}

// lookOut spawns the tasks of all look-outs that are not over for all keys that had none.
func (p *plain) lookOut() {
	for _, o := range p.outs {
		for _, key := range p.vars[o.v].E.Keys {
			if o.pool.closed || slices.Contains(o.had, key) {
				continue
			}
			o.had = append(o.had, key)
			p.event(api.EventKey, o.job, o.stmt, o.v, key, api.Elem{})
			env := map[string]plainValue{}
			for name, value := range o.env {
				env[name] = value
			}
			env[o.stmt.kids[0].Text] = plainValue{n: key}
			p.arrive(&plainJob{path: slices.Concat(o.job.path, []api.Hop{{Site: p.site(o.stmt), Piece: key}}), home: o.stmt, by: len(p.events) - 1, env: env, in: o.in})
		}
	}
}

// play does statements by picks, at most so many steps, and returns the error.
func (p *plain) play(picks []int, most int) (e api.Errno) {
	defer func() {
		if r := recover(); r != nil {
			x, ok := r.(plainError)
			if !ok {
				panic(r)
			}
			e = x.e
		}
	}()
	for i := 0; ; i++ {
		l := p.ready()
		if len(l) == 0 {
			return api.OK
		}
		pick := 0
		if i < len(picks) {
			pick = picks[i]
		}
		j := l[pick%len(l)]
		if p.steps >= most && !p.fails(j) {
			return api.OK
		}
		p.step(j)
	}
}

// outcome returns what there is.
func (p *plain) outcome() api.Outcome {
	out := api.Outcome{Vars: slices.Clone(p.vars), Tasks: len(p.jobs), Steps: p.steps}
	byPath := func(a, b []api.Hop) int {
		for i := range min(len(a), len(b)) {
			if a[i].Site != b[i].Site {
				return a[i].Site - b[i].Site
			}
			if a[i].Piece != b[i].Piece {
				return a[i].Piece - b[i].Piece
			}
		}
		return len(a) - len(b)
	}
	slices.SortFunc(out.Vars, func(a, b api.VarState) int { return cmp.Or(byPath(a.Path, b.Path), a.Site-b.Site) })
	for _, j := range p.jobs {
		out.Fails = append(out.Fails, j.fails...)
		if j.done || p.can(j) {
			continue
		}
		if pool := j.todo[0].ends; pool != nil {
			out.Waits = append(out.Waits, api.Wait{Path: j.path, Site: p.site(pool.stmt)})
		} else {
			out.Waits = append(out.Waits, api.Wait{Path: j.path, Site: p.site(j.todo[0].stmt)})
		}
	}
	slices.Sort(out.Fails)
	slices.SortFunc(out.Waits, func(a, b api.Wait) int { return byPath(a.Path, b.Path) })
	return out
}

// history returns all that has happened.
func (p *plain) history() api.History {
	out := api.History{Vars: p.vars, Events: p.events}
	for _, j := range p.jobs {
		out.Actors = append(out.Actors, api.Actor{Path: j.path, Node: j.home.n, By: j.by})
	}
	return out
}
