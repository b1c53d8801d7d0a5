package compile

import (
	"slices"

	"dripstone/api"
)

// rules returns how the statements of each kind are made.
func rules() map[uint8]func(*maker, int) {
	return map[uint8]func(*maker, int){
		api.NewStmt:    (*maker).makeVariable,
		api.ShareStmt:  (*maker).makeVariable,
		api.LetStmt:    (*maker).makeLet,
		api.PutStmt:    (*maker).makePut,
		api.SpawnStmt:  (*maker).makeSpawn,
		api.WhenStmt:   (*maker).makeWhen,
		api.EachStmt:   (*maker).makeEach,
		api.AllStmt:    (*maker).makeAll,
		api.FreezeStmt: (*maker).makeFreeze,
		api.IfStmt:     (*maker).makeIf,
		api.FailStmt:   (*maker).makeFail,
	}
}

// makeVariable makes a NewStmt or a ShareStmt.
func (k *maker) makeVariable(stmt int) {
	i := api.Ins{Op: api.ONew, S: k.shapeNumber(k.Types[stmt].Shape), Site: k.Sites[stmt]}
	if k.is(stmt, api.ShareStmt) {
		i.B = 1
	}
	k.registers[stmt] = k.result(stmt, i)
}

// makeLet makes a LetStmt: the register of its result stays in use. (That of another name is in use for longer.)
func (k *maker) makeLet(stmt int) {
	k.registers[stmt] = k.expr(stmt + 1)
	k.add(stmt, api.Ins{Op: api.ONote})
}

func (k *maker) makePut(stmt int) {
	before := k.used
	point := k.point(stmt+1, k.shapeMeant(stmt))
	k.add(stmt, api.Ins{Op: api.OPut, A: k.declared(stmt), B: point})
	k.used = before
}

func (k *maker) makeSpawn(stmt int) {
	before := k.used
	arguments := k.exprs(stmt)
	k.add(stmt, api.Ins{Op: api.OSpawn, Name: k.Nodes[stmt].Text, Args: arguments, Site: k.Sites[stmt]})
	k.used = before
}

func (k *maker) makeWhen(stmt int) {
	before := k.used
	all := slices.Collect(k.kids(stmt))
	cases := make([]api.Case, len(all))
	for n, node := range all {
		cases[n].Reg = k.point(node+1, k.shapeMeant(stmt))
	}
	k.add(stmt, api.Ins{Op: api.OWhen, A: k.declared(stmt), Cases: cases, Site: k.Sites[stmt]})
	k.used = before
	// The cases share the memory of those of the instruction: it learns where to go when the blocks are made.
	var jumps []int
	for n, node := range all {
		if n > 0 {
			jumps = append(jumps, k.add(stmt, api.Ins{Op: api.OJump}))
		}
		cases[n].To = len(k.Ins)
		// The block of a case stands behind its point.
		k.block(k.end(node + 1))
	}
	k.jumpFrom(jumps...)
}

func (k *maker) makeEach(stmt int) {
	arguments := collected(slices.Values(k.captures(stmt)), func(d int) int { return k.registers[d] })
	k.add(stmt, api.Ins{Op: api.OEach, A: k.declared(stmt), Name: k.label(stmt), Args: arguments, Site: k.Sites[stmt]})
}

func (k *maker) makeAll(stmt int) {
	k.add(stmt, api.Ins{Op: api.OAll, Site: k.Sites[stmt]})
	k.block(stmt + 1)
	k.add(stmt, api.Ins{Op: api.ODone, Site: k.Sites[stmt]})
}

// makeFreeze makes a FreezeStmt, behind which its BindNode stands.
func (k *maker) makeFreeze(stmt int) {
	k.registers[stmt+1] = k.result(stmt, api.Ins{Op: api.OFreeze, B: k.declared(stmt), Site: k.Sites[stmt]})
}

func (k *maker) makeIf(stmt int) {
	before := k.used
	result := k.expr(stmt + 1)
	k.add(stmt, api.Ins{Op: api.ONote})
	from := k.add(stmt, api.Ins{Op: api.OZero, A: result})
	k.used = before
	for n, block := range slices.Collect(k.kids(stmt, api.BlockNode)) {
		if n > 0 {
			jump := k.add(stmt, api.Ins{Op: api.OJump})
			k.jumpFrom(from)
			from = jump
		}
		k.block(block)
	}
	k.jumpFrom(from)
}

func (k *maker) makeFail(stmt int) {
	before := k.used
	result := k.expr(stmt + 1)
	k.add(stmt, api.Ins{Op: api.OFail, A: result})
	k.used = before
}
