package tell_test

import (
	"math/rand"
	"slices"
	"testing"

	"dripstone/api"
	"dripstone/elem"
	"dripstone/tell"
)

// sample is a program with inputs.
type sample struct {
	u  api.Tree
	in []int
}

// samples returns programs of which something is tested: those that were made, and some others.
func samples(t *testing.T, seed int64, n int, flat bool, rough int) []sample {
	t.Helper()
	r := rand.New(rand.NewSource(seed))
	var out []sample
	for range n {
		u, in := someProgram(t, r, flat, rough)
		out = append(out, sample{u, in})
	}
	if !flat {
		out = append(out, sample{mustParse(t, exampleText), []int{4}})
		for _, s := range memoryTexts() {
			out = append(out, sample{mustParse(t, s), []int{2}})
		}
	}
	return out
}

// P6.8: any order comes to the same.
func TestAnyOrder(t *testing.T) {
	r := rand.New(rand.NewSource(68))
	fine, broken := 0, 0
	for _, x := range samples(t, 681, 400, false, 30) {
		o, e := tell.Run(x.u, x.in)
		for i := range 5 {
			picks := randomPicks(r)
			if i == 0 { // those that come last first
				picks = slices.Repeat([]int{1<<63 - 1 - r.Intn(2)}, api.MaxSteps)
			}
			p, f := tell.Order(x.u, x.in, picks)
			if (e == api.OK) != (f == api.OK) || e == api.OK && !tell.Agree(o, p) || f != api.OK && f != api.ErrFail && f != api.ErrLimit {
				t.Fatalf("Order by %v: %v, %v, and Run: %v, %v of\n%s", picks, p, f, o, e, mustPrint(t, x.u))
			}
		}
		if e == api.OK {
			fine++
		} else {
			broken++
		}
	}
	if fine < 100 || broken < 20 {
		t.Errorf("only %d without an error, and %d with one", fine, broken)
	}
}

// P6.9: after more steps there is more.
func TestGrowth(t *testing.T) {
	for _, x := range samples(t, 69, 100, false, 10) {
		o, e := tell.Run(x.u, x.in)
		before := api.Outcome{}
		for steps := range min(o.Steps+2, 60) {
			a, f := tell.After(x.u, x.in, steps)
			if f != api.OK && e == api.OK {
				t.Fatalf("After %d: %v of\n%s", steps, f, mustPrint(t, x.u))
			}
			if f != api.OK {
				break
			}
			mustBeBelow(t, x.u, before, a)
			if e == api.OK {
				mustBeBelow(t, x.u, a, o)
			}
			before = a
		}
		if e == api.OK && o.Steps < 60 && !tell.Agree(before, o) {
			t.Fatalf("After all steps: %v, and not %v of\n%s", before, o, mustPrint(t, x.u))
		}
	}
}

// P6.10: what a history has to do with the outcome, and with itself.
func TestHistory(t *testing.T) {
	for _, x := range samples(t, 70, 300, false, 10) {
		h, e := tell.Log(x.u, x.in)
		if e != api.OK {
			continue
		}
		bad := func(why string, n int) { t.Fatalf("%s: %d of\n%s\n%v", why, n, mustPrint(t, x.u), h) }
		o := mustRun(t, x.u, x.in)
		steps, did, frozen := 0, map[[2]int]bool{}, map[int]bool{}
		for i, v := range h.Events {
			isStep := v.Kind != api.EventKey && v.Kind != api.EventEnd && (v.Kind != api.EventFail || x.u.Nodes[v.Node].Kind == api.FailStmt)
			if isStep {
				steps++
				if did[[2]int{v.Task, v.Node}] {
					bad("a statement twice", i)
				}
				did[[2]int{v.Task, v.Node}] = true
			}
			switch v.Kind {
			case api.EventWake:
				l := api.Lattice{Tables: mustTables(t, x.u), Shape: h.Vars[v.Var].Shape}
				if is, e := elem.Below(l, v.E, joinedBefore(t, x.u, h, v.Var, i)); !is || e != api.OK {
					bad("a wake too early", i)
				}
			case api.EventRead:
				frozen[v.Var] = true
				if !same(v.E, joinedBefore(t, x.u, h, v.Var, i)) {
					bad("what was read", i)
				}
			case api.EventJoin:
				if frozen[v.Var] {
					bad("a join too late", i)
				}
			}
		}
		if steps != o.Steps || len(h.Actors) != o.Tasks || len(h.Vars) != len(o.Vars) {
			bad("steps", steps)
		}
		for i, v := range h.Vars {
			if got, e := tell.Find(o, v.Path, v.Site); e != api.OK || !same(got, v) || !same(v.E, joinedBefore(t, x.u, h, i, len(h.Events))) {
				bad("a variable", i)
			}
		}
		historyTasks(t, x, h)
	}
}

// historyTasks tests what a history says of tasks: each one but main has one event By, before all of its own.
func historyTasks(t *testing.T, x sample, h api.History) {
	t.Helper()
	first := map[int]int{}
	for i, v := range slices.Backward(h.Events) {
		if v.Kind != api.EventKey {
			first[v.Task] = i
		}
	}
	by := map[int]bool{}
	for i, a := range h.Actors {
		if i == 0 {
			if a.By != -1 || len(a.Path) != 0 {
				t.Fatalf("main: %v of\n%s", a, mustPrint(t, x.u))
			}
			continue
		}
		v := h.Events[a.By]
		at, began := first[i]
		hop := a.Path[len(a.Path)-1]
		if v.Kind == api.EventKey && (hop.Piece != v.N || a.Node != v.Node) || v.Kind == api.EventSpawn && (hop.Piece != 0 || v.N != i) || v.Kind != api.EventKey && v.Kind != api.EventSpawn ||
			by[a.By] || began && at < a.By || !slices.Equal(h.Actors[v.Task].Path, a.Path[:len(a.Path)-1]) {
			t.Fatalf("the task %d: %v of\n%s", i, a, mustPrint(t, x.u))
		}
		by[a.By] = true
	}
	for i, v := range h.Events {
		if (v.Kind == api.EventKey || v.Kind == api.EventSpawn) && !by[i] {
			t.Fatalf("no task came by the event %d of\n%s", i, mustPrint(t, x.u))
		}
	}
}

// poolOf returns the innermost AllStmt in whose block an EachStmt lies, in the same level.
func poolOf(u api.Tree, each int) int {
	out := -1
	for node, n := range u.Nodes[:each] {
		if each < node+n.Size && (n.Kind == api.AllStmt || n.Kind == api.EachStmt) {
			out = node
		}
	}
	return out
}

// P6.11: each key has a task, once, and in time.
func TestHandlers(t *testing.T) {
	quiet, late := 0, 0
	for _, x := range samples(t, 71, 400, false, 10) {
		h, e := tell.Log(x.u, x.in)
		if e != api.OK {
			continue
		}
		for i, v := range h.Events {
			if v.Kind != api.EventEach {
				continue
			}
			pool := poolOf(x.u, v.Node)
			end := slices.IndexFunc(h.Events, func(q api.Event) bool {
				return q.Kind == api.EventQuiet && q.Task == v.Task && q.Node == pool
			})
			if end < 0 {
				end = len(h.Events)
			} else {
				quiet++
			}
			var keys []int
			for j, k := range h.Events {
				if k.Kind == api.EventKey && k.Task == v.Task && k.Node == v.Node {
					keys = append(keys, k.N)
					if j < i || j > end || k.Var != v.Var {
						t.Fatalf("the event %d of\n%s", j, mustPrint(t, x.u))
					}
				}
			}
			slices.Sort(keys)
			if want := joinedBefore(t, x.u, h, v.Var, end); !same(keys, want.Keys) {
				t.Fatalf("of the look-out %d there are tasks for %v, and not %v of\n%s", i, keys, want.Keys, mustPrint(t, x.u))
			}
			if len(h.Vars[v.Var].E.Keys) > len(keys) {
				late++
			}
		}
	}
	if quiet < 300 || late < 10 {
		t.Errorf("only %d pools were quiet, and %d look-outs had too few keys", quiet, late)
	}
}

// P6.12: a pool is closed when all its members have ended or failed.
func TestMembers(t *testing.T) {
	members := 0
	for _, x := range samples(t, 72, 400, false, 10) {
		h, e := tell.Log(x.u, x.in)
		if e != api.OK {
			continue
		}
		for i, v := range h.Events {
			if v.Kind != api.EventQuiet {
				continue
			}
			among := map[int]bool{}
			for task, a := range h.Actors[1:] {
				by := h.Events[a.By]
				inBlock := by.Task == v.Task && by.Node > v.Node && by.Node < v.Node+x.u.Nodes[v.Node].Size
				if !inBlock && !among[by.Task] {
					continue
				}
				among[task+1] = true
				members++
				end := slices.IndexFunc(h.Events, func(q api.Event) bool {
					return (q.Kind == api.EventEnd || q.Kind == api.EventFail) && q.Task == task+1
				})
				if end < 0 || end > i {
					t.Fatalf("the pool %d, and its member %d of\n%s", i, task+1, mustPrint(t, x.u))
				}
			}
		}
	}
	if members < 1000 {
		t.Errorf("only %d members", members)
	}
}

// P6.13: with less that is put in there is less.
func TestLessPut(t *testing.T) {
	puts, less := 0, 0
	l := append(samples(t, 73, 250, true, 5),
		sample{mustParse(t, "task main() { share x: max; share y: set; spawn f(x, y); put x 5; when x 5 { put y {1}; fail 1; } } task f(x: max, y: set) { when y {1} { put x 9; share z: flag; put z on; } }"), nil})
	for _, x := range l {
		o, e := tell.Run(x.u, x.in)
		if e != api.OK {
			continue
		}
		h := mustLog(t, x.u, x.in)
		for _, put := range ofKind(x.u, api.PutStmt) {
			end := put + x.u.Nodes[put].Size
			if slices.ContainsFunc(h.Events, func(v api.Event) bool { return v.Kind == api.EventFail && v.Node > put && v.Node < end }) {
				continue
			}
			u := without(x.u, put)
			mustBeProgram(t, u)
			a, e := tell.Run(u, x.in)
			if e != api.OK {
				t.Fatalf("Run without the put %d: %v of\n%s", put, e, mustPrint(t, x.u))
			}
			mustBeBelow(t, x.u, a, o)
			puts++
			if len(a.Waits) > len(o.Waits) {
				less++
			}
		}
	}
	if puts < 300 || less < 5 {
		t.Errorf("only %d puts, and %d without which more tasks wait", puts, less)
	}
}
