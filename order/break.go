package order

import "dripstone/api"

// firstBreak returns the break of a table, or the zero Break, if it is a lattice.
func (w *walked) firstBreak() api.Break {
	for a := range w.Elems {
		if w.beyond[a].has(a) {
			return api.Break{Kind: api.BreakCycle, A: a}
		}
	}
	for a := range w.Elems {
		if !w.above(0).has(a) {
			return api.Break{Kind: api.BreakBase, A: a}
		}
	}
	for a, b := range w.pairs() {
		if _, ok := w.join(a, b); !ok {
			return api.Break{Kind: w.unjoined(a, b), A: a, B: b}
		}
	}
	return w.wrongBreak()
}

// unjoined returns the kind of the break of two elements that have no join.
func (w *walked) unjoined(a, b int) uint8 {
	if w.above(a, b) == 0 {
		return api.BreakNone
	}
	return api.BreakMany
}

// wrongBreak returns the first break of what is wrong, or the zero Break.
func (w *walked) wrongBreak() api.Break {
	if w.Wrong[0] {
		return api.Break{Kind: api.BreakWrong}
	}
	for a := range w.Elems {
		for b := range w.above(a).each() {
			if w.Wrong[a] && !w.Wrong[b] {
				return api.Break{Kind: api.BreakWrong, A: a, B: b}
			}
		}
	}
	return api.Break{}
}
