package tell_test

import (
	"math/rand"
	"slices"
	"strings"
	"testing"

	"dripstone/api"
	"dripstone/tell"
)

// raceText returns a program in which the order shows: what comes first decides which error there is. Its main does raceSteps statements before it spawns others.
func raceText() string {
	fill := ""
	for _, keys := range []string{"1, 2, 3, 4", "5, 6, 7, 8", "9, 10, 11, 12", "13, 14, 15, 16", "17, 18, 19, 20", "21, 22, 23, 24", "25, 26, 27, 28", "29, 30, 31, 32", "33, 34, 35, 36", "37, 38, 39, 40"} {
		fill += "put x {" + keys + "}; "
	}
	return "task main() { share x: set; share y: once; put y 1; if 1 { " + fill + "} if 1 { spawn lim(x); spawn bad(y); spawn late(y); spawn lim(x); let a = 1; let b = 1 / 0; } }" +
		"task lim(x: set) { let a = 1; put x {1}; put x {100}; } task bad(y: once) { let a = 1; put y 1; put y 2; } task late(y: once) { when y 1 { put y 3; } }"
}

const raceSteps = 15

// P6.2: the i-th pick says which of those that can go on does so, by their numbers, modulo how many they are; behind the picks it is the first one.
func TestPicks(t *testing.T) {
	u := mustParse(t, raceText())
	mustBeProgram(t, u)
	for _, x := range []struct {
		picks string
		want  api.Errno
	}{
		// m: main goes on; l, b, w: lim, bad, late do.
		{"", api.ErrLimit},
		{"0", api.ErrLimit},
		{"0 1 1 1", api.ErrLimit},
		{"0 0 2 2 2", api.ErrFail},
		{"0 0 2 2 0 0 0 0", api.ErrLimit},
		{"0 0 2 2 0 0 2", api.ErrFail},
		// Modulo three.
		{"0 0 5 8 302", api.ErrFail},
		{"0 0 2 2 1 1 1", api.ErrLimit},
		{"0 0 2 2 1 1 2", api.ErrFail},
		// Four can go on: late does, twice.
		{"0 0 0 3 3", api.ErrFail},
		{"0 0 0 3 1 1 1", api.ErrLimit},
		{"0 0 0 3 7", api.ErrFail},
		// Main is gone: the numbers are one less. (It fails as a pick says.)
		{"0 0 0 0 0 0 2 2", api.ErrFail},
		{"0 0 0 0 0 0 1 1 1", api.ErrFail},
		{"0 0 0 0 0 0 3 3 3", api.ErrLimit},
		{"0 0 0 0 0 0 0 0 0", api.ErrLimit},
		{"0 0 0 0 0 1 1 1", api.ErrLimit},
		{"0 0 0 0 0 2 2 2", api.ErrFail},
	} {
		picks := make([]int, raceSteps)
		for i := range picks {
			// Main alone can go on.
			picks[i] = 7 * i
		}
		for _, s := range strings.Fields(x.picks) {
			n := 0
			for _, c := range s {
				n = 10*n + int(c-'0')
			}
			picks = append(picks, n)
		}
		if o, e := tell.Order(u, nil, picks); e != x.want || !same(o, api.Outcome{}) {
			t.Errorf("Order by %s: %v, and not %v", x.picks, e, x.want)
		}
	}
}

// P6.2: likewise, by many picks.
func TestRace(t *testing.T) {
	r := rand.New(rand.NewSource(62))
	u := mustParse(t, raceText())
	met := map[api.Errno]int{}
	for range 600 {
		picks := slices.Repeat([]int{0}, raceSteps)
		for range r.Intn(12) {
			picks = append(picks, r.Intn(6))
		}
		want := newPlain(u, nil).play(picks, 1<<30)
		met[want]++
		if _, e := tell.Order(u, nil, picks); e != want {
			t.Fatalf("Order by %v: %v, and not %v", picks[raceSteps:], e, want)
		}
	}
	if met[api.ErrFail] < 50 || met[api.ErrLimit] < 50 {
		t.Errorf("there were %v", met)
	}
}
