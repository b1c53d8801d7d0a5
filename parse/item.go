package parse

import (
	"iter"

	"dripstone/api"
)

// items yields the items that are right, one after another; flaws that are met are told before the next item is yielded.
func (r *reader) items() iter.Seq[branch] {
	return func(yield func(branch) bool) {
		for r.next < len(r.tokens) {
			r.how = going
			item := r.item()
			switch {
			case r.how == stuck:
				r.flaw()
				// The next token is behind the item's first one, or it is the first one and begins no item.
				r.next = r.itemToken(r.next)
			case r.how == going && !yield(item):
				return
			}
		}
	}
}

// item reads an item.
func (r *reader) item() branch {
	switch {
	case r.is("lattice"):
		return r.lattice()
	case r.is("use"):
		return r.use()
	case r.is("task"):
		return r.task()
	}
	r.stop()
	return branch{}
}

// lattice reads a table.
func (r *reader) lattice() branch {
	first := r.next
	r.read("lattice")
	text := r.name()
	r.read("{")
	elems := r.list(";", r.elem)
	r.read("}")
	return r.made(first, api.TreeNode{Kind: api.LatticeItem, Text: text}, elems...)
}

// elem reads an element of a table.
func (r *reader) elem() branch {
	first := r.next
	n := api.TreeNode{Kind: api.ElemNode, Text: r.name()}
	if r.skip("!") {
		n.N = 1
	}
	var aboves []branch
	if r.skip(":") {
		aboves = r.list(",", func() branch { return r.named(api.AboveNode) })
	}
	return r.made(first, n, aboves...)
}

// named reads a node that is just a name.
func (r *reader) named(kind uint8) branch {
	first := r.next
	text := r.name()
	return r.made(first, api.TreeNode{Kind: kind, Text: text})
}

// use reads a use.
func (r *reader) use() branch {
	first := r.next
	r.read("use")
	text := r.name()
	types := r.bracketed(r.anyType)
	r.read(";")
	return r.made(first, api.TreeNode{Kind: api.UseItem, Text: text}, types...)
}

// task reads a task.
func (r *reader) task() branch {
	first := r.next
	r.read("task")
	text := r.name()
	kids := r.bracketed(r.param)
	kids = append(kids, r.block())
	return r.made(first, api.TreeNode{Kind: api.TaskItem, Text: text}, kids...)
}

// param reads a parameter.
func (r *reader) param() branch {
	first := r.next
	text := r.name()
	r.read(":")
	kid := r.anyType()
	return r.made(first, api.TreeNode{Kind: api.ParamNode, Text: text}, kid)
}

// anyType reads a type.
func (r *reader) anyType() branch {
	first := r.next
	if r.skip("int") {
		return r.made(first, api.TreeNode{Kind: api.IntType})
	}
	return r.shape()
}

// shape reads a shape.
func (r *reader) shape() branch {
	first := r.next
	for _, w := range shapeWords {
		if r.skip(w.text) {
			return r.made(first, api.TreeNode{Kind: w.kind})
		}
	}
	switch {
	case r.skip("map"):
		r.read("(")
		kid := r.shape()
		r.read(")")
		return r.made(first, api.TreeNode{Kind: api.MapType}, kid)
	case r.skip("pair"):
		r.read("(")
		left := r.shape()
		r.read(",")
		right := r.shape()
		r.read(")")
		return r.made(first, api.TreeNode{Kind: api.PairType}, left, right)
	}
	return r.named(api.NamedType)
}
