package elem

import "dripstone/api"

// maxCountBytes are more bytes than the count of any number of an element has, so that no count is too great for an int.
const maxCountBytes = 8

// unpack reads the bytes of an element, of which it does not say whether the lattice holds it.
func (r *reader) unpack() api.Elem {
	out := api.Elem{Kind: r.oneByte()}
	if !r.hasKind(out.Kind) {
		return r.none()
	}
	switch out.Kind {
	case api.ElemInt:
		out.N = r.number()
	case api.ElemName:
		out.N = r.count()
	case api.ElemSet, api.ElemMap:
		for range r.keyCount() {
			out.Keys = append(out.Keys, r.number())
			if out.Kind == api.ElemMap {
				r.kidOf(&out, r.unpack)
			}
		}
	case api.ElemPair:
		for range 2 {
			r.kidOf(&out, r.unpack)
		}
	}
	return out
}

// oneByte reads a byte.
func (r *reader) oneByte() byte {
	if r.rest == "" {
		r.lost = true
		return 0
	}
	out := r.rest[0]
	r.rest = r.rest[1:]
	return out
}

// count reads a count, which must have as few bytes as can be.
func (r *reader) count() int {
	out := 0
	for at := range maxCountBytes {
		b := int(r.oneByte())
		out += b % moreBytes << (at * countBits)
		if b < moreBytes {
			if b == 0 && at > 0 {
				r.lost = true
			}
			return out
		}
	}
	r.lost = true
	return 0
}

// keyCount reads a count of keys.
func (r *reader) keyCount() int {
	out := r.count()
	if out > api.MaxKeys {
		r.lost = true
		return 0
	}
	return out
}

// number reads a number.
func (r *reader) number() int {
	n := r.count()
	if n%2 == 1 {
		return -(n + 1) / 2
	}
	return n / 2
}
