package tell

import (
	"cmp"
	"slices"

	"dripstone/api"
)

// comparePaths returns a number below 0 if a path is smaller than another one, above 0 if it is greater, and 0 if they are the same.
func comparePaths(a, b []api.Hop) int {
	return slices.CompareFunc(a, b, func(a, b api.Hop) int {
		return cmp.Or(cmp.Compare(a.Site, b.Site), cmp.Compare(a.Piece, b.Piece))
	})
}

// compareVars compares variables by where they were made.
func compareVars(a, b api.VarState) int {
	return cmp.Or(comparePaths(a.Path, b.Path), cmp.Compare(a.Site, b.Site))
}

// outcome returns what an execution has come to so far. (An execution has one result alone: this can have the paths of its tasks, but of variables, which have them from their tasks, copies.)
func (x *execution) outcome() api.Outcome {
	out := api.Outcome{Vars: x.varStates(), Fails: x.fails, Tasks: len(x.tasks), Steps: x.steps}
	slices.SortFunc(out.Vars, compareVars)
	slices.Sort(out.Fails)
	for _, t := range x.tasks {
		if !t.gone && !x.canGoOn(t) {
			out.Waits = append(out.Waits, api.Wait{Path: t.Path, Site: x.Sites[t.turn.stmt]})
		}
	}
	slices.SortFunc(out.Waits, func(a, b api.Wait) int { return comparePaths(a.Path, b.Path) })
	return out
}

// varStates returns the variables, by their numbers.
func (x *execution) varStates() []api.VarState {
	var out []api.VarState
	for _, v := range x.vars {
		out = append(out, copiedVar(v.VarState))
	}
	return out
}

// history returns all that has happened.
func (x *execution) history() api.History {
	out := api.History{Vars: x.varStates(), Events: x.events}
	for _, t := range x.tasks {
		out.Actors = append(out.Actors, t.Actor)
	}
	return out
}

// isStep says whether an event is a step.
func (x *execution) isStep(e api.Event) bool {
	switch e.Kind {
	case api.EventKey, api.EventEnd:
		return false
	case api.EventFail:
		return x.is(e.Node, api.FailStmt)
	}
	return true
}

// times returns for each node how many steps were done at it.
func (x *execution) times() []int {
	out := make([]int, len(x.Nodes))
	for _, e := range x.events {
		out[e.Node] += bit(x.isStep(e))
	}
	return out
}

// paths returns the paths of all tasks, ascending.
func (x *execution) paths() [][]api.Hop {
	var out [][]api.Hop
	for _, t := range x.tasks {
		out = append(out, t.Path)
	}
	slices.SortFunc(out, comparePaths)
	return out
}
