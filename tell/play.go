package tell

import (
	"math"
	"slices"

	"dripstone/api"
)

// execution is a program that is executed: its tasks and variables, and what has happened so far.
type execution struct {
	*program
	deeds  map[uint8]func(*execution, *task) api.Errno
	tasks  []*task
	vars   []*variable
	events []api.Event
	fails  []int
	steps  int
}

// endless is more steps than there can be.
const endless = math.MaxInt

// begin returns an execution of a tree with inputs in which nothing is done yet, or the error of these.
func begin(t api.Tree, in []int) (*execution, api.Errno) {
	p, e := readProgram(t)
	if e != api.OK {
		return nil, e
	}
	params := slices.Collect(p.kids(p.main(), api.ParamNode))
	if len(in) != len(params) {
		return nil, api.ErrArg
	}
	if slices.ContainsFunc(in, func(n int) bool { return !isNumber(n) }) {
		return nil, api.ErrRange
	}
	x := &execution{program: p, deeds: deeds()}
	x.spawn(&task{Actor: api.Actor{Node: p.main()}, names: x.handed(p.main(), in)})
	return x, api.OK
}

// whole returns a whole execution, in the order of the history, or the error.
func whole(t api.Tree, in []int) (*execution, api.Errno) {
	x, e := begin(t, in)
	if e != api.OK {
		return nil, e
	}
	if e := x.play(nil, endless); e != api.OK {
		return nil, e
	}
	return x, api.OK
}

// play lets tasks go on until none can, or the next one would do a step more than so many. The picks say which one goes on; behind them it is the first one.
func (x *execution) play(picks []int, most int) api.Errno {
	for i := 0; ; i++ {
		t := x.picked(picks, i)
		if t == nil || x.steps == most && t.turn.fault.n == 0 {
			return api.OK
		}
		if e := x.goOn(t); e != api.OK {
			return e
		}
	}
}

// picked returns the task that is the i-th one to go on, or nil.
func (x *execution) picked(picks []int, i int) *task {
	if i >= len(picks) {
		first := slices.IndexFunc(x.tasks, x.canGoOn)
		if first < 0 {
			return nil
		}
		return x.tasks[first]
	}
	var ready []*task
	for _, t := range x.tasks {
		if x.canGoOn(t) {
			ready = append(ready, t)
		}
	}
	if len(ready) == 0 {
		return nil
	}
	return ready[picks[i]%len(ready)]
}

// canGoOn says whether a task can go on.
func (x *execution) canGoOn(t *task) bool {
	switch {
	case t.gone:
		return false
	case t.turn.fault.n != 0:
		return true
	case x.is(t.turn.stmt, api.WhenStmt):
		return t.turn.holds >= 0
	case x.is(t.turn.stmt, api.AllStmt):
		return t.pool().going == 0
	}
	return true
}

// goOn lets a task do its next statement, or fail at it.
func (x *execution) goOn(t *task) api.Errno {
	if t.turn.fault.n != 0 {
		x.fail(t, t.turn.fault)
		return api.OK
	}
	if x.steps == api.MaxSteps {
		return api.ErrLimit
	}
	x.steps++
	// An AllStmt is gone behind when its pool begins.
	if stmt := t.turn.stmt; !x.is(stmt, api.AllStmt) {
		t.rests[len(t.rests)-1].at = x.end(stmt)
	}
	e := x.deeds[x.Nodes[t.turn.stmt].Kind](x, t)
	if e == api.OK && !t.gone {
		x.settle(t)
	}
	return e
}

// note notes an event.
func (x *execution) note(e api.Event) {
	x.events = append(x.events, e)
}

// spawn lets a task come; the last event is that by which it does.
func (x *execution) spawn(t *task) api.Errno {
	if len(x.tasks) == api.MaxTasks {
		return api.ErrLimit
	}
	t.number = len(x.tasks)
	t.By = len(x.events) - 1
	x.tasks = append(x.tasks, t)
	for p := t.within; p != nil; p = p.outer {
		p.going++
	}
	x.enter(t, x.blocks(t.Node)[0], nil)
	x.settle(t)
	return api.OK
}

// handed returns what the parameters of a TaskItem stand for.
func (x *execution) handed(item int, arguments []int) map[int]value {
	out := map[int]value{}
	i := 0
	for param := range x.kids(item, api.ParamNode) {
		out[param] = value{n: arguments[i]}
		i++
	}
	return out
}
