package tell_test

import (
	"math/rand"
	"slices"
	"testing"

	"dripstone/api"
	"dripstone/tell"
)

// randomPicks returns some picks.
func randomPicks(r *rand.Rand) []int {
	out := make([]int, r.Intn(60))
	most := 1 + r.Intn(12)
	for i := range out {
		out[i] = r.Intn(most)
	}
	return out
}

// P6.1 to P6.6: programs that were made, as the definitions say.
func TestMade(t *testing.T) {
	r := rand.New(rand.NewSource(64))
	met := map[string]int{}
	for i := range 800 {
		u, in := someProgram(t, r, i%8 == 0, i%4*25)
		p := newPlain(u, in)
		e := p.play(nil, 1<<30)
		count(met, u, p, e)
		want := p.result(e)
		h, f := tell.Log(u, in)
		o, g := tell.Run(u, in)
		if e != api.OK {
			p = &plain{}
		}
		if f != e || g != e || !same(h, p.history()) || !same(o, want) {
			t.Fatalf("Run: %v, %v, and not %v, %v of\n%s%v\n%v", o, g, want, e, mustPrint(t, u), h, p.history())
		}
		compareOrders(t, r, u, in)
		compareAfters(t, r, u, in, o.Steps)
		if e == api.OK {
			compareCounts(t, u, in, p)
		}
	}
	for _, what := range []string{"step", "make", "join", "spawn", "wake", "each", "key", "quiet", "read", "fail", "end", "fault", "key that is put", "key's task looks out", "case 1", "wait at a when", "wait at a pool", "ErrFail", "ErrLimit", "OK", "200 steps"} {
		if met[what] < 10 {
			t.Errorf("%s: only %d times", what, met[what])
		}
	}
}

// count counts what comes in an execution.
func count(met map[string]int, u api.Tree, p *plain, e api.Errno) {
	met[map[api.Errno]string{api.OK: "OK", api.ErrFail: "ErrFail", api.ErrLimit: "ErrLimit"}[e]]++
	for i, x := range p.events {
		met[words[x.Kind]]++
		switch {
		case x.Kind == api.EventFail && u.Nodes[x.Node].Kind != api.FailStmt:
			met["fault"]++
		case x.Kind == api.EventKey && p.events[i-1].Kind == api.EventJoin:
			met["key that is put"]++
		case x.Kind == api.EventEach && u.Nodes[p.jobs[x.Task].home.n].Kind == api.EachStmt:
			met["key's task looks out"]++
		case x.Kind == api.EventWake && x.N == 1:
			met["case 1"]++
		}
	}
	for _, j := range p.jobs {
		if !j.done && e == api.OK {
			met[map[bool]string{true: "wait at a when", false: "wait at a pool"}[j.todo[0].ends == nil]]++
		}
	}
	if e == api.OK && p.steps >= 200 {
		met["200 steps"]++
	}
}

// result returns the outcome, if there is no error.
func (p *plain) result(e api.Errno) api.Outcome {
	if e != api.OK {
		return api.Outcome{}
	}
	return p.outcome()
}

// compareOrders compares Order by some picks.
func compareOrders(t *testing.T, r *rand.Rand, u api.Tree, in []int) {
	t.Helper()
	for range 2 {
		picks := randomPicks(r)
		p := newPlain(u, in)
		e := p.play(picks, 1<<30)
		want := p.result(e)
		if o, f := tell.Order(u, in, picks); f != e || !same(o, want) {
			t.Fatalf("Order by %v: %v, %v, and not %v, %v of\n%s", picks, o, f, want, e, mustPrint(t, u))
		}
	}
}

// compareAfters compares After for some numbers of steps.
func compareAfters(t *testing.T, r *rand.Rand, u api.Tree, in []int, most int) {
	t.Helper()
	for _, steps := range []int{0, most - 1, r.Intn(most + 10), r.Intn(most + 30)} {
		if steps < 0 {
			continue
		}
		p := newPlain(u, in)
		e := p.play(nil, steps)
		want := p.result(e)
		if o, f := tell.After(u, in, steps); f != e || !same(o, want) {
			t.Fatalf("After %d: %v, %v, and not %v, %v of\n%s", steps, o, f, want, e, mustPrint(t, u))
		}
	}
}

// compareCounts compares Times and Paths.
func compareCounts(t *testing.T, u api.Tree, in []int, p *plain) {
	t.Helper()
	want := make([]int, len(u.Nodes))
	for _, x := range p.events {
		no := x.Kind == api.EventKey || x.Kind == api.EventEnd || x.Kind == api.EventFail && u.Nodes[x.Node].Kind != api.FailStmt
		if !no {
			want[x.Node]++
		}
	}
	if l, e := tell.Times(u, in); e != api.OK || !slices.Equal(l, want) {
		t.Fatalf("Times: %v, %v, and not %v of\n%s", l, e, want, mustPrint(t, u))
	}
	l, e := tell.Paths(u, in)
	if e != api.OK || len(l) != len(p.jobs) {
		t.Fatalf("Paths: %v, %v of\n%s", l, e, mustPrint(t, u))
	}
	for i, j := range p.jobs {
		if !slices.ContainsFunc(l, func(path []api.Hop) bool { return slices.Equal(path, j.path) }) || i > 0 && !pathLess(l[i-1], l[i]) {
			t.Fatalf("Paths: %v of\n%s", l, mustPrint(t, u))
		}
	}
}

// pathLess says whether a path is smaller than another one.
func pathLess(a, b []api.Hop) bool {
	for i, hop := range b {
		if i == len(a) {
			return true
		}
		if a[i] != hop {
			return a[i].Site < hop.Site || a[i].Site == hop.Site && a[i].Piece < hop.Piece
		}
	}
	return false
}
