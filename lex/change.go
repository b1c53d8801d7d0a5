package lex

import (
	"slices"

	"dripstone/api"
)

// Rescan returns how the tokens of a text change by an edit. Its int is the place of an error, in the text that has it.
func Rescan(s string, x api.Edit) (api.Change, int, api.Errno) {
	old, at, e := Scan(s)
	if e != api.OK {
		return api.Change{}, at, e
	}
	d, ok := splice(s, x)
	if !ok {
		return api.Change{}, 0, api.ErrRange
	}
	now, at, e := Scan(d.after)
	if e != api.OK {
		return api.Change{}, at, e
	}
	head, tail := d.head(old, now), d.tail(old, now)
	// Head tokens stay before From and tail tokens behind what was put: in both lists they are apart.
	return api.Change{Head: head, Tail: tail, New: slices.Clone(now[head : len(now)-tail])}, 0, api.OK
}

// head returns how many of the first tokens stay.
func (d done) head(old, now []api.Lexeme) int {
	return run(min(len(old), len(now)), func(i int) bool {
		return old[i].At < d.From && old[i] == now[i]
	})
}

// tail returns how many of the last tokens stay, but for their places.
func (d done) tail(old, now []api.Lexeme) int {
	return run(min(len(old), len(now)), func(i int) bool {
		t := old[len(old)-1-i]
		return t.At >= d.To && moved(t, d.growth()) == now[len(now)-1-i]
	})
}

// moved returns a token that stands some bytes further on.
func moved(t api.Lexeme, by int) api.Lexeme {
	t.At += by
	return t
}

// Patch returns tokens after a change.
func Patch(l []api.Lexeme, x api.Edit, c api.Change) ([]api.Lexeme, api.Errno) {
	if max(len(l), len(c.New)) > api.MaxTokens || len(x.Put) > api.MaxText {
		return nil, api.ErrLimit
	}
	if !inRange(l, x, c) {
		return nil, api.ErrRange
	}
	if c.Head+len(c.New)+c.Tail > api.MaxTokens {
		return nil, api.ErrLimit
	}
	out := slices.Concat(l[:c.Head], c.New)
	for _, t := range l[len(l)-c.Tail:] {
		out = append(out, moved(t, len(x.Put)-(x.To-x.From)))
	}
	return out, api.OK
}

// inRange says whether the numbers of an edit, of a change, and of their tokens are in their limits.
func inRange(l []api.Lexeme, x api.Edit, c api.Change) bool {
	if x.From < 0 || x.To < x.From || x.To > api.MaxText {
		return false
	}
	// Head and Tail may be so great that their sum would not fit.
	if c.Head < 0 || c.Tail < 0 || c.Tail > len(l)-c.Head {
		return false
	}
	placed := func(t api.Lexeme) bool { return t.At >= 0 && t.At <= api.MaxText }
	return every(l, placed) && every(c.New, placed)
}
