package tell

import (
	"slices"

	"dripstone/api"
	"dripstone/elem"
)

// task is a task of an execution.
type task struct {
	api.Actor
	number int
	names  map[int]value // what its names stand for, by their declarations
	within *pool         // the innermost pool of which it is a member, or nil
	rests  []rest        // what it has still to do, of the innermost block last
	turn   turn
	gone   bool // it has ended or failed
}

// rest is what a task has still to do of a block: the statements from one node on, before another one; and then to close a pool, if the block is that of one.
type rest struct {
	at, end int
	pool    *pool
}

// pool is a pool, or was one.
type pool struct {
	stmt   int
	outer  *pool // the innermost one of those in which it is, or nil
	going  int   // how many members have neither ended nor failed
	closed bool
}

// turn is what a task is to do next: a statement, with what its exprs and points come to; of a WhenStmt also which of its points holds, -1 if none does.
type turn struct {
	stmt     int
	integers []int
	elems    []api.Elem
	fault    fault
	holds    int
}

// pool returns the innermost pool of which a task that is spawned now is a member, or nil.
func (t *task) pool() *pool {
	for _, r := range slices.Backward(t.rests) {
		if r.pool != nil {
			return r.pool
		}
	}
	return t.within
}

// enter lets a task go on with a block.
func (x *execution) enter(t *task, block int, p *pool) {
	t.rests = append(t.rests, rest{at: block + 1, end: x.end(block), pool: p})
}

// leaveBlock lets a task go on behind its innermost block.
func (t *task) leaveBlock() {
	t.rests = t.rests[:len(t.rests)-1]
}

// settle lets a task come to what it is to do next, into the pools before that, or to its end.
func (x *execution) settle(t *task) {
	for len(t.rests) > 0 {
		r := &t.rests[len(t.rests)-1]
		switch {
		case r.at == r.end && r.pool == nil:
			t.leaveBlock()
		case r.at == r.end:
			x.turnTo(t, r.pool.stmt)
			return
		case x.is(r.at, api.AllStmt):
			stmt := r.at
			r.at = x.end(stmt)
			x.enter(t, x.blocks(stmt)[0], &pool{stmt: stmt, outer: t.pool()})
		default:
			x.turnTo(t, r.at)
			return
		}
	}
	x.note(api.Event{Kind: api.EventEnd, Task: t.number, Node: t.Node})
	x.leave(t)
}

// turnTo works out what a task is to do next.
func (x *execution) turnTo(t *task, stmt int) {
	r := &reckoner{program: x.program, names: t.names}
	t.turn = turn{stmt: stmt, integers: r.integers(stmt), holds: -1}
	for kid := range x.kids(stmt) {
		// The point of a case stands right behind it.
		if x.is(kid, api.CaseNode) {
			kid++
		}
		if x.isPoint(kid) {
			t.turn.elems = append(t.turn.elems, r.elem(kid))
		}
	}
	t.turn.fault = r.fault
	if x.is(stmt, api.WhenStmt) && r.fault.n == 0 {
		v := x.variable(t)
		v.waiting = append(v.waiting, t)
		v.wake()
	}
}

// leave notes that a task has ended or failed.
func (x *execution) leave(t *task) {
	t.gone = true
	for p := t.within; p != nil; p = p.outer {
		p.going--
	}
}

// fail lets a task fail with a number.
func (x *execution) fail(t *task, f fault) {
	x.note(api.Event{Kind: api.EventFail, Task: t.number, Node: f.node, N: f.n})
	x.fails = append(x.fails, f.n)
	x.leave(t)
}

// variable is a variable of an execution.
type variable struct {
	api.VarState
	lattice api.Lattice
	waiting []*task    // those whose WhenStmt has no point that holds
	watched []*lookOut // in the order in which they began
}

// wake finds out whose WhenStmt has a point that holds now. Then it holds for ever, and no other one does.
func (v *variable) wake() {
	v.waiting = slices.DeleteFunc(v.waiting, func(t *task) bool {
		t.turn.holds = slices.IndexFunc(t.turn.elems, v.isAbove)
		return t.turn.holds >= 0
	})
}

// isAbove says whether the value of a variable is above an element.
func (v *variable) isAbove(e api.Elem) bool {
	is, _ := elem.Below(v.lattice, e, v.E)
	return is
}

// lookOut is a look-out: its EachStmt and its task, with what names stood for when it began, and its innermost pool.
type lookOut struct {
	stmt  int
	by    *task
	names map[int]value
	pool  *pool
}
