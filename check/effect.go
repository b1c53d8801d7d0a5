package check

import (
	"slices"

	"dripstone/api"
)

// effects returns what the UseItems and TaskItems may do, in their order.
func (v *view) effects() []api.Effect {
	known := map[int]api.Effect{}
	for grown := true; grown; {
		grown = false
		for item := range v.kids(0, api.UseItem, api.TaskItem) {
			next := v.effect(item, known)
			grown = grown || !sameEffect(next, known[item])
			known[item] = next
		}
	}
	var out []api.Effect
	for item := range v.kids(0, api.UseItem, api.TaskItem) {
		out = append(out, known[item])
	}
	return out
}

// sameEffect says whether two effects are the same.
func sameEffect(a, b api.Effect) bool {
	return slices.Equal(a.Puts, b.Puts) && slices.Equal(a.Waits, b.Waits) && a.Fails == b.Fails && a.Spawns == b.Spawns
}

// effect returns what an item may do, as far as it is known what the items may do that it spawns.
func (v *view) effect(item int, known map[int]api.Effect) api.Effect {
	foreign := v.is(item, api.UseItem)
	failing := func(spawn int) bool { return known[v.Means[spawn]].Fails }
	out := api.Effect{
		Fails:  foreign || v.has(item, api.FailStmt, api.AddNode, api.SubNode, api.MulNode, api.DivNode) || first(v.below(item, api.SpawnStmt), failing) >= 0,
		Spawns: foreign || v.has(item, api.SpawnStmt, api.EachStmt),
	}
	puts := func(e api.Effect) []bool { return e.Puts }
	waits := func(e api.Effect) []bool { return e.Waits }
	for param := range v.params(item) {
		// The ParamNode stands right before its type.
		out.Puts = append(out.Puts, foreign || v.does(item, param-1, api.PutStmt) || v.handsOver(item, param-1, known, puts))
		out.Waits = append(out.Waits, foreign || v.does(item, param-1, api.WhenStmt) || v.handsOver(item, param-1, known, waits))
	}
	return out
}

// has says whether there is a node of some kinds in an item.
func (v *view) has(item int, kinds ...uint8) bool {
	for range v.below(item, kinds...) {
		return true
	}
	return false
}

// does says whether a statement of a kind in a task means a parameter.
func (v *view) does(task, param int, kind uint8) bool {
	return first(v.below(task, kind), func(stmt int) bool { return v.Means[stmt] == param }) >= 0
}

// handsOver says whether a SpawnStmt in a task hands a parameter over to one of which something is known.
func (v *view) handsOver(task, param int, known map[int]api.Effect, of func(api.Effect) []bool) bool {
	return first(v.below(task, api.SpawnStmt), func(spawn int) bool {
		does := of(known[v.Means[spawn]])
		for i, argument := range slices.Collect(v.kids(spawn)) {
			if v.is(argument, api.NameNode) && v.Means[argument] == param && i < len(does) && does[i] {
				return true
			}
		}
		return false
	}) >= 0
}
