package tell

import (
	"maps"
	"slices"

	"dripstone/api"
	"dripstone/elem"
)

// deeds returns how the statements of each kind are done.
func deeds() map[uint8]func(*execution, *task) api.Errno {
	return map[uint8]func(*execution, *task) api.Errno{
		api.NewStmt:    (*execution).doMake,
		api.ShareStmt:  (*execution).doMake,
		api.LetStmt:    (*execution).doLet,
		api.PutStmt:    (*execution).doPut,
		api.SpawnStmt:  (*execution).doSpawn,
		api.WhenStmt:   (*execution).doWhen,
		api.EachStmt:   (*execution).doEach,
		api.AllStmt:    (*execution).doAll,
		api.FreezeStmt: (*execution).doFreeze,
		api.IfStmt:     (*execution).doIf,
		api.FailStmt:   (*execution).doFail,
	}
}

// event returns an event of a kind at the statement of a task.
func (t *task) event(kind uint8) api.Event {
	return api.Event{Kind: kind, Task: t.number, Node: t.turn.stmt}
}

// varNumber returns the number of the variable that the statement of a task means.
func (x *execution) varNumber(t *task) int {
	return t.names[x.Means[t.turn.stmt]].n
}

// variable returns the variable that the statement of a task means.
func (x *execution) variable(t *task) *variable {
	return x.vars[x.varNumber(t)]
}

// pathAt returns the path of a task that comes at a site of another one.
func (x *execution) pathAt(t *task, stmt, piece int) []api.Hop {
	return slices.Concat(t.Path, []api.Hop{{Site: x.Sites[stmt], Piece: piece}})
}

// doMake makes a variable.
func (x *execution) doMake(t *task) api.Errno {
	if len(x.vars) == api.MaxVars {
		return api.ErrLimit
	}
	stmt := t.turn.stmt
	shape := x.Types[stmt].Shape
	event := t.event(api.EventMake)
	event.Var = len(x.vars)
	t.names[stmt] = value{n: event.Var}
	x.vars = append(x.vars, &variable{VarState: api.VarState{Path: t.Path, Site: x.Sites[stmt], Shape: shape}, lattice: x.lattice(shape)})
	x.note(event)
	return api.OK
}

// doLet lets a name stand for an integer.
func (x *execution) doLet(t *task) api.Errno {
	event := t.event(api.EventStep)
	event.N = t.turn.integers[0]
	t.names[t.turn.stmt] = value{n: event.N}
	x.note(event)
	return api.OK
}

// doPut joins an element into a variable.
func (x *execution) doPut(t *task) api.Errno {
	v := x.variable(t)
	event := t.event(api.EventJoin)
	event.Var = x.varNumber(t)
	event.E = t.turn.elems[0]
	joined, e := elem.Join(v.lattice, v.E, event.E)
	if e != api.OK {
		return e
	}
	if wrong, _ := elem.IsWrong(v.lattice, joined); wrong {
		return api.ErrFail
	}
	x.note(event)
	return x.grow(v, joined)
}

// grow gives a variable a greater value.
func (x *execution) grow(v *variable, to api.Elem) api.Errno {
	before := v.E.Keys
	v.E = to
	for _, w := range v.watched {
		for _, key := range to.Keys {
			if w.pool.closed || slices.Contains(before, key) {
				continue
			}
			if e := x.spawnKey(w, key); e != api.OK {
				return e
			}
		}
	}
	v.wake()
	return api.OK
}

// doSpawn lets a task begin.
func (x *execution) doSpawn(t *task) api.Errno {
	stmt := t.turn.stmt
	item := x.Means[stmt]
	event := t.event(api.EventSpawn)
	event.N = len(x.tasks)
	x.note(event)
	return x.spawn(&task{
		Actor:  api.Actor{Path: x.pathAt(t, stmt, 0), Node: item},
		names:  x.handed(item, t.turn.integers),
		within: t.pool(),
	})
}

// doWhen goes on with the block of the case that holds.
func (x *execution) doWhen(t *task) api.Errno {
	event := t.event(api.EventWake)
	event.Var = x.varNumber(t)
	event.N = t.turn.holds
	event.E = t.turn.elems[event.N]
	x.note(event)
	cases := slices.Collect(x.kids(t.turn.stmt))
	x.enter(t, x.blocks(cases[event.N])[0], nil)
	return api.OK
}

// doEach begins a look-out.
func (x *execution) doEach(t *task) api.Errno {
	v := x.variable(t)
	event := t.event(api.EventEach)
	event.Var = x.varNumber(t)
	x.note(event)
	w := &lookOut{stmt: t.turn.stmt, by: t, names: maps.Clone(t.names), pool: t.pool()}
	v.watched = append(v.watched, w)
	for _, key := range v.E.Keys {
		if e := x.spawnKey(w, key); e != api.OK {
			return e
		}
	}
	return api.OK
}

// spawnKey lets the task of a look-out for a key begin.
func (x *execution) spawnKey(w *lookOut, key int) api.Errno {
	x.note(api.Event{Kind: api.EventKey, Task: w.by.number, Node: w.stmt, Var: w.names[x.Means[w.stmt]].n, N: key})
	t := &task{
		Actor:  api.Actor{Path: x.pathAt(w.by, w.stmt, key), Node: w.stmt},
		names:  maps.Clone(w.names),
		within: w.pool,
	}
	for bind := range x.kids(w.stmt, api.BindNode) {
		t.names[bind] = value{n: key}
	}
	return x.spawn(t)
}

// doAll closes a pool.
func (x *execution) doAll(t *task) api.Errno {
	t.pool().closed = true
	t.leaveBlock()
	x.note(t.event(api.EventQuiet))
	return api.OK
}

// doFreeze lets a name stand for the value of a variable.
func (x *execution) doFreeze(t *task) api.Errno {
	v := x.variable(t)
	event := t.event(api.EventRead)
	event.Var = x.varNumber(t)
	event.E = copiedElem(v.E)
	for bind := range x.kids(t.turn.stmt, api.BindNode) {
		t.names[bind] = value{e: v.E}
	}
	x.note(event)
	return api.OK
}

// doIf goes on with one of two blocks, if it is there.
func (x *execution) doIf(t *task) api.Errno {
	event := t.event(api.EventStep)
	event.N = t.turn.integers[0]
	x.note(event)
	blocks := x.blocks(t.turn.stmt)
	if event.N == 0 {
		blocks = blocks[1:]
	}
	if len(blocks) > 0 {
		x.enter(t, blocks[0], nil)
	}
	return api.OK
}

// doFail lets a task fail.
func (x *execution) doFail(t *task) api.Errno {
	x.fail(t, fault{t.turn.stmt, t.turn.integers[0]})
	return api.OK
}
