package lex

import "dripstone/api"

// done is an edit with the texts before and after it.
type done struct {
	api.Edit
	before, after string
}

// splice does an edit, whatever its new text is like, and says whether it is one of the text.
func splice(s string, x api.Edit) (done, bool) {
	if x.From < 0 || x.To < x.From || x.To > len(s) {
		return done{}, false
	}
	return done{Edit: x, before: s, after: s[:x.From] + x.Put + s[x.To:]}, true
}

// do does an edit of which both texts are right.
func do(s string, x api.Edit) (done, api.Errno) {
	if _, e := textError(s); e != api.OK {
		return done{}, e
	}
	d, ok := splice(s, x)
	if !ok {
		return done{}, api.ErrRange
	}
	if _, e := textError(d.after); e != api.OK {
		return done{}, e
	}
	return d, api.OK
}

// behind returns the place behind what was put.
func (d done) behind() int {
	return d.From + len(d.Put)
}

// growth returns how many bytes more the text has after the edit.
func (d done) growth() int {
	return len(d.after) - len(d.before)
}

// Apply returns a text after an edit.
func Apply(s string, x api.Edit) (string, api.Errno) {
	d, e := do(s, x)
	if e != api.OK {
		return "", e
	}
	return d.after, api.OK
}

// Undo returns the edit that takes an edit back.
func Undo(s string, x api.Edit) (api.Edit, api.Errno) {
	d, e := do(s, x)
	if e != api.OK {
		return api.Edit{}, e
	}
	return api.Edit{From: d.From, To: d.behind(), Put: d.before[d.From:d.To]}, api.OK
}

// Diff returns the edit that makes a text of another one.
func Diff(a, b string) (api.Edit, api.Errno) {
	if _, e := textError(a); e != api.OK {
		return api.Edit{}, e
	}
	if _, e := textError(b); e != api.OK {
		return api.Edit{}, e
	}
	shorter := min(len(a), len(b))
	from := run(shorter, func(i int) bool { return a[i] == b[i] })
	// What both begin with alike is not looked at again, or the two parts that stay could overlap.
	rest := run(shorter-from, func(i int) bool { return a[len(a)-1-i] == b[len(b)-1-i] })
	return api.Edit{From: from, To: len(a) - rest, Put: b[from : len(b)-rest]}, api.OK
}

// Both returns the one edit that does an edit and then another one.
func Both(s string, x, y api.Edit) (api.Edit, api.Errno) {
	first, e := do(s, x)
	if e != api.OK {
		return api.Edit{}, e
	}
	second, e := do(first.after, y)
	if e != api.OK {
		return api.Edit{}, e
	}
	from := min(first.From, second.From)
	to := first.To
	if second.To >= first.behind() {
		to = max(to, second.To-first.growth())
	}
	end := to + first.growth() + second.growth()
	return api.Edit{From: from, To: to, Put: second.after[from:end]}, api.OK
}
