package compile

import (
	"slices"

	"dripstone/api"
)

// maker makes the segment of a home.
type maker struct {
	*module
	api.Segment
	origins   []int // of each instruction the node for which it stands
	registers []int // of each node the register of the declaration that it is; -1 if it is none that is known here
	used      int   // how many registers are in use: they are always the first ones
	rules     map[uint8]func(*maker, int)
}

// made returns the maker of a home, which has made its segment.
func (m *module) made(home int) *maker {
	k := &maker{module: m, registers: slices.Repeat([]int{-1}, len(m.Nodes)), rules: rules()}
	k.Name = m.label(home)
	for _, d := range m.params(home) {
		k.registers[d] = k.take()
		k.Params = append(k.Params, m.kind(d))
	}
	for block := range k.kids(home, api.BlockNode) {
		k.block(block)
	}
	k.add(home, api.Ins{Op: api.OHalt})
	k.Regs = max(k.Regs, 1)
	return k
}

// take takes the first register that is not in use.
func (k *maker) take() int {
	r := k.used
	k.used++
	k.Regs = max(k.Regs, k.used)
	return r
}

// add adds an instruction that stands for a node, and returns its place.
func (k *maker) add(node int, i api.Ins) int {
	k.Ins = append(k.Ins, i)
	k.origins = append(k.origins, node)
	return len(k.Ins) - 1
}

// result adds an instruction whose result goes to a register that is not in use, and returns this.
func (k *maker) result(node int, i api.Ins) int {
	i.A = k.take()
	k.add(node, i)
	return i.A
}

// declared returns the register of the declaration that a node means.
func (k *maker) declared(node int) int {
	return k.registers[k.Means[node]]
}

// shapeMeant returns the shape of the variable that a node means.
func (k *maker) shapeMeant(node int) api.Shape {
	return k.Types[k.Means[node]].Shape
}

// block makes the statements of a block, behind which its declarations are not known any more.
func (k *maker) block(node int) {
	before := k.used
	for stmt := range k.kids(node) {
		k.rules[k.Nodes[stmt].Kind](k, stmt)
	}
	k.used = before
}

// jumpFrom lets instructions go to the place behind all that were made.
func (k *maker) jumpFrom(places ...int) {
	for _, at := range places {
		k.Ins[at].N = len(k.Ins)
	}
}
