package elem_test

import (
	"math/rand"
	"slices"
	"testing"

	"dripstone/api"
	"dripstone/elem"
)

// plainCount returns the bytes of a count: as many lots of 7 bits as it has, the lowest ones first, with 128 more in all but the last one.
func plainCount(n int) []byte {
	out := []byte{byte(n & 127)}
	for n >>= 7; n > 0; n >>= 7 {
		out[len(out)-1] |= 128
		out = append(out, byte(n&127))
	}
	return out
}

// plainNumber returns the bytes of a number.
func plainNumber(n int) []byte {
	if n >= 0 {
		return plainCount(n + n)
	}
	return plainCount(-n - n - 1)
}

// plainBytes returns the bytes of an element.
func plainBytes(e api.Elem) []byte {
	out := []byte{e.Kind}
	switch e.Kind {
	case api.ElemInt:
		out = append(out, plainNumber(e.N)...)
	case api.ElemName:
		out = append(out, plainCount(e.N)...)
	case api.ElemSet:
		out = append(out, plainCount(len(e.Keys))...)
		for _, key := range e.Keys {
			out = append(out, plainNumber(key)...)
		}
	case api.ElemMap:
		out = append(out, plainCount(len(e.Keys))...)
		for i, key := range e.Keys {
			out = append(append(out, plainNumber(key)...), plainBytes(e.Kids[i])...)
		}
	case api.ElemPair:
		out = append(append(out, plainBytes(e.Kids[0])...), plainBytes(e.Kids[1])...)
	}
	return out
}

// P4.7: bytes by hand, and back.
func TestBytes(t *testing.T) {
	for _, x := range []struct {
		shape string
		e     api.Elem
		b     []byte
	}{
		{"flag", none(), []byte{0}}, {"flag", on(), []byte{1}}, {"once", clash(), []byte{3}}, {"l", name(2), []byte{4, 2}}, {"set", none(), []byte{0}},
		{"max", whole(0), []byte{2, 0}}, {"max", whole(-1), []byte{2, 1}}, {"max", whole(1), []byte{2, 2}}, {"max", whole(-7), []byte{2, 13}}, {"max", whole(63), []byte{2, 126}}, {"max", whole(-64), []byte{2, 127}}, {"max", whole(64), []byte{2, 128, 1}}, {"max", whole(-65), []byte{2, 129, 1}}, {"max", whole(8191), []byte{2, 254, 127}}, {"max", whole(8192), []byte{2, 128, 128, 1}}, {"once", whole(1000000000), []byte{2, 128, 168, 214, 185, 7}}, {"once", whole(-1000000000), []byte{2, 255, 167, 214, 185, 7}},
		{"set", set(-1, 0, 63), []byte{5, 3, 1, 0, 126}}, {"set", set(100), []byte{5, 1, 200, 1}}, {"map(flag)", mapOf([]int{5}, on()), []byte{6, 1, 10, 1}}, {"map(map(once))", mapOf([]int{-2, 3}, mapOf([]int{1}, whole(4)), mapOf([]int{0, 1}, clash(), whole(0))), []byte{6, 2, 3, 6, 1, 2, 2, 8, 6, 6, 2, 0, 3, 2, 2, 0}},
		{"pair(flag, max)", pairOf(on(), none()), []byte{7, 1, 0}}, {"pair(flag, max)", pairOf(on(), whole(-7)), []byte{7, 1, 2, 13}}, {"pair(pair(l, set), c)", pairOf(pairOf(name(1), none()), name(3)), []byte{7, 7, 4, 1, 0, 4, 3}},
	} {
		u := latticeOf(t, x.shape)
		if b, e := elem.Bytes(u, x.e); !slices.Equal(b, x.b) || e != api.OK {
			t.Errorf("Bytes, %s, of %v: %v, %v", x.shape, x.e, b, e)
		}
		if y, e := elem.Read(u, x.b); !same(y, x.e) || e != api.OK {
			t.Errorf("Read, %s, of %v: %v, %v", x.shape, x.b, y, e)
		}
	}
}

// P4.7: bytes of no element, by hand.
func TestNoBytes(t *testing.T) {
	for shape, l := range map[string][][]byte{
		"flag":               {nil, {}, {2, 0}, {3}, {1, 0}, {0, 0}, {1, 1}, {8}, {128}, {255}, {129}, {128, 0}},
		"max":                {nil, {1}, {2}, {3}, {2, 128}, {2, 128, 0}, {2, 130, 128, 0}, {2, 255, 255, 255, 255, 127}, {2, 129, 168, 214, 185, 7}, {2, 130, 168, 214, 185, 7}, {2, 255, 255, 255, 255, 255, 255, 255, 255, 127}, {2, 255, 255, 255, 255, 255, 255, 255, 255, 255, 1}, {2, 130, 128, 128, 128, 128, 128, 128, 128, 128, 2}, {2, 130, 128, 128, 128, 128, 128, 128, 128, 128, 128, 0}, {2, 2, 0}, {0, 0}},
		"once":               {{3, 0}, {2}, {4, 1}, {2, 129, 0}},
		"l":                  {{4}, {4, 0}, {4, 4}, {4, 128}, {4, 129, 0}, {4, 255, 255, 255, 255, 255, 255, 255, 127}, {4, 255, 255, 255, 255, 255, 255, 255, 255, 255, 1}, {4, 1, 0}, {2, 2}},
		"one":                {{4, 0}, {4, 1}},
		"set":                {{5}, {5, 0}, {5, 1}, {5, 2, 2}, {5, 2, 2, 2}, {5, 2, 4, 2}, {5, 1, 2, 2}, {5, 129, 0, 2}, {5, 1, 128, 0}, {5, 1, 129, 168, 214, 185, 7}, {5, 41}, slices.Concat([]byte{5, 41}, evens(41)), {5, 255, 255, 255, 255, 255, 255, 255, 127}, {6, 1, 2, 1}},
		"map(flag)":          {{6}, {6, 0}, {6, 1}, {6, 1, 2}, {6, 1, 2, 0}, {6, 1, 2, 2, 0}, {6, 2, 2, 1}, {6, 2, 2, 1, 2, 1}, {6, 2, 4, 1, 2, 1}, {6, 1, 2, 1, 1}, {6, 129, 0, 2, 1}, {6, 1, 130, 0, 1}, {6, 255, 255, 255, 127}, {5, 1, 2}},
		"pair(flag, max)":    {{7}, {7, 1}, {7, 0, 0}, {7, 0}, {7, 2, 2, 1}, {7, 1, 1}, {7, 1, 0, 0}, {7, 1, 2}, {7, 1, 2, 128, 0}, {7, 8, 0}},
		"map(map(map(set)))": {{6, 1, 0, 6, 1, 0, 6, 1, 0, 0}, {6, 1, 0, 6, 1, 0, 6, 1, 0, 5, 0}, {6, 1, 0, 6, 1, 0, 5, 1, 0}, slices.Repeat([]byte{6, 40}, 10000), slices.Repeat([]byte{6, 1, 0}, 6000)},
	} {
		u := latticeOf(t, shape)
		for _, b := range l {
			if y, e := elem.Read(u, b); !same(y, none()) || e != api.ErrForm {
				t.Errorf("Read, %s, of %v: %v, %v", shape, b, y, e)
			}
		}
	}
}

// evens returns the bytes of so many keys, from 0 on.
func evens(n int) []byte {
	var out []byte
	for i := range n {
		out = append(out, byte(2*i))
	}
	return out
}

// checkBytes checks that if bytes are read they are those of what is read, and returns whether they are.
func checkBytes(t *testing.T, u api.Lattice, b []byte) bool {
	t.Helper()
	x, e := elem.Read(u, b)
	if e == api.OK && (!plainHolds(u, x) || !slices.Equal(plainBytes(x), b)) || e != api.OK && (e != api.ErrForm || !same(x, none())) {
		t.Fatalf("Read, %v, of %v: %v, %v", u.Shape, b, x, e)
	}
	return e == api.OK
}

// countBytes checks all lists of at most so many of some bytes, and returns how many are those of elements.
func countBytes(t *testing.T, u api.Lattice, begin, some []byte, most int) int {
	t.Helper()
	n := 0
	if checkBytes(t, u, begin) {
		n++
	}
	if most > 0 {
		for _, b := range some {
			n += countBytes(t, u, append(slices.Clone(begin), b), some, most-1)
		}
	}
	return n
}

// P4.7: all short lists of bytes.
func TestShortBytes(t *testing.T) {
	var all []byte
	for b := range 256 {
		all = append(all, byte(b))
	}
	few := []byte{0, 1, 2, 3, 4, 5, 6, 7, 128, 255}
	for _, x := range []struct {
		shape string
		some  []byte
		most  int
		want  int // how many lists are those of elements
	}{
		{"flag", all, 2, 2}, {"max", all, 2, 129}, {"once", all, 2, 130}, {"l", all, 2, 4}, {"set", all, 2, 1}, {"map(flag)", all, 2, 1}, {"pair(flag, max)", all, 2, 1},
		// The bytes of 0 to 7, and of two bytes those that are 128 or 255 and one from 1 to 7.
		{"max", few, 4, 1 + 8 + 2*7 + 2*2*7}, {"set", few, 4, 1 + 8 + 2*7 + 28}, {"map(flag)", few, 4, 1 + 8}, {"pair(flag, max)", few, 4, 1 + 1 + 2*8},
		{"pair(flag, once)", few, 4, 1 + 1 + 1 + 1 + 2*8}, {"map(l)", few, 5, 1 + 3*8},
	} {
		if n := countBytes(t, latticeOf(t, x.shape), nil, x.some, x.most); n != x.want {
			t.Errorf("%s: %d lists of %d bytes are those of elements, and not %d", x.shape, n, len(x.some), x.want)
		}
	}
}

// P4.7, P4.13: the bytes of many elements, and back; and bytes in which something was changed.
func TestBytesBack(t *testing.T) {
	r := rand.New(rand.NewSource(9))
	read := 0
	elemsOf(t, 10, func(u api.Lattice, x api.Elem) {
		b, e := elem.Bytes(u, x)
		if !slices.Equal(b, plainBytes(x)) || e != api.OK {
			t.Fatalf("Bytes, %v, of %v: %v, %v", u.Shape, x, b, e)
		}
		if y, e := elem.Read(u, b); !same(y, x) || e != api.OK {
			t.Fatalf("Read, %v, of %v: %v, %v", u.Shape, b, y, e)
		}
		if checkBytes(t, u, b[:len(b)-1]) {
			t.Fatalf("Read, %v, of %v without the last byte has no error", u.Shape, b)
		}
		for _, more := range []byte{0, 1, 2, 5, 7, 127, 128, 255} {
			if checkBytes(t, u, append(slices.Clone(b), more)) {
				t.Fatalf("Read, %v, of %v and %d has no error", u.Shape, b, more)
			}
		}
		for range 10 {
			c := slices.Clone(b)
			at := r.Intn(len(c))
			switch r.Intn(3) {
			case 0:
				c[at] = byte(r.Intn(9) + 124*r.Intn(2))
			case 1:
				c = slices.Insert(c, at, byte(r.Intn(9)+124*r.Intn(2)))
			case 2:
				c = slices.Delete(c, at, at+1)
			}
			if checkBytes(t, u, c) {
				read++
			}
		}
	})
	if read < 1000 {
		t.Errorf("%d changed lists were read", read)
	}
}

// sizedBytes returns a map of maps of sets that has so many bytes.
func sizedBytes(size int) api.Elem {
	lengths := slices.Repeat([]int{1}, 120*40)
	first := []int{0, 0, 64, 8192, 1048576, 134217728} // the first numbers of so many bytes
	build := func() api.Elem {
		out := mapOf(upTo(40))
		for i := range 40 {
			kid := mapOf(upTo(3))
			for j := range 3 {
				var keys []int
				for k := range 40 {
					keys = append(keys, first[lengths[(i*3+j)*40+k]]+k)
				}
				kid.Kids = append(kid.Kids, set(keys...))
			}
			out.Kids = append(out.Kids, kid)
		}
		return out
	}
	// What comes late in a set has more bytes.
	rest := size - len(plainBytes(build()))
	for i := len(lengths) - 1; i >= 0; i-- {
		more := min(rest, 4)
		lengths[i] += more
		rest -= more
	}
	return build()
}

// P4.7: 20000 bytes, and more.
func TestLongBytes(t *testing.T) {
	u := latticeOf(t, "map(map(set))")
	for size := 19990; size <= 20010; size++ {
		x := sizedBytes(size)
		want := plainBytes(x)
		if len(want) != size || !plainHolds(u, x) {
			t.Fatalf("an element that should have %d bytes has %d: %v", size, len(want), x)
		}
		b, e := elem.Bytes(u, x)
		y, f := elem.Read(u, want)
		if size <= 20000 && (!slices.Equal(b, want) || e != api.OK || !same(x, y) || f != api.OK) {
			t.Errorf("Bytes and Read of %d: %v, %v", size, e, f)
		}
		if size > 20000 && (len(b) != 0 || e != api.ErrLimit || !same(y, none()) || f != api.ErrLimit) {
			t.Errorf("Bytes and Read of %d: %v, %v", size, e, f)
		}
	}
	for _, size := range []int{20000, 20001, 1000000} {
		want := api.ErrForm
		if size > 20000 {
			want = api.ErrLimit
		}
		for _, c := range []byte{0, 5, 6, 40, 128, 255} {
			if y, e := elem.Read(u, slices.Repeat([]byte{c}, size)); !same(y, none()) || e != want {
				t.Errorf("Read of %d times %d: %v, %v", size, c, y, e)
			}
		}
	}
}
