package elem

import "dripstone/api"

// reader reads the elements of a lattice from the beginning of a text, or of bytes, on. When something does not stand there that must, it is lost, and what it reads is of no use.
type reader struct {
	right
	rest string
	lost bool
}

// all returns the element that is read, if there is nothing behind it, and it is one of the lattice.
func (r *reader) all(read func() api.Elem) (api.Elem, api.Errno) {
	out := read()
	if r.lost || r.rest != "" || !r.holds(out) {
		return api.Elem{}, api.ErrForm
	}
	return out, api.OK
}

// kidOf reads a kid behind the others of an element.
func (r *reader) kidOf(e *api.Elem, read func() api.Elem) {
	outer := r.right
	r.right = outer.kid(len(e.Kids))
	kid := read()
	r.right = outer
	e.Kids = append(e.Kids, kid)
}

// none says that the reader is lost, and returns what it reads then.
func (r *reader) none() api.Elem {
	r.lost = true
	return api.Elem{}
}
