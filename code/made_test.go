package code_test

import (
	"math/rand"
	"testing"

	"dripstone/api"
	"dripstone/code"
)

// P7.1, P7.2, P7.3, P7.4: modules that are made, by the plain reading.
func TestMade(t *testing.T) {
	met := map[uint8]int{}
	unreached, joined, known := 0, 0, 0
	for _, c := range someModules(t, 71, 300) {
		compareSights(t, c)
		compareGraph(t, c)
		for n, s := range c.Segments {
			for at, i := range s.Ins {
				met[i.Op]++
				x := mustSight(t, c, n, at)
				if !x.Reached {
					unreached++
				}
				if len(x.Passed) > 1 {
					joined++
				}
				for _, h := range x.Regs {
					if h.Kind == api.HeldElem && h.Known {
						known++
					}
				}
			}
		}
	}
	for op := uint8(api.OInt); op <= api.OHalt; op++ {
		if met[op] < 50 {
			t.Errorf("only %d instructions of the operation %d", met[op], op)
		}
	}
	if unreached < 100 || joined < 200 || known < 1000 {
		t.Errorf("only %d instructions were not reached, before %d several variables were passed on, %d elements known", unreached, joined, known)
	}
}

// P7.1, P7.2: modules that are made, and changed, by the plain reading.
func TestChanged(t *testing.T) {
	r := rand.New(rand.NewSource(72))
	met := map[api.Errno]int{}
	for _, c := range someModules(t, 73, 200) {
		for range 25 {
			d := c
			for range 1 + r.Intn(2) {
				d = otherCode(r, d)
			}
			want := plain{d}.error()
			if e := code.Check(d); e != want {
				t.Fatalf("Check: %v, and not %v of\n%s", e, want, rawText(d))
			}
			met[want]++
			if want == api.OK && r.Intn(8) == 0 {
				compareSights(t, d)
			}
		}
	}
	if met[api.OK] < 1000 || met[api.ErrType] < 1000 || met[api.ErrState] < 300 || len(met) != 3 {
		t.Errorf("so many modules had errors: %v", met)
	}
}
