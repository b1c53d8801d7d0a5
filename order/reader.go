package order

import "strings"

// reader reads a text from its beginning on. When something does not stand there that must, it is lost, and what it reads is of no use.
type reader struct {
	rest string
	lost bool
}

// skip reads a text if it stands next, and says whether it does.
func (r *reader) skip(text string) bool {
	rest, ok := strings.CutPrefix(r.rest, text)
	if ok {
		r.rest = rest
	}
	return ok
}

// read reads a text that must stand next.
func (r *reader) read(text string) {
	if !r.skip(text) {
		r.lost = true
	}
}

// word reads a word; it is empty where none stands next.
func (r *reader) word() string {
	end := wordEnd(r.rest)
	out := r.rest[:end]
	r.rest = r.rest[end:]
	return out
}

// ended says whether all of the text was read, and was right.
func (r *reader) ended() bool {
	return !r.lost && r.rest == ""
}
