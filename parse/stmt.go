package parse

import "dripstone/api"

// statements returns how the statements are read, by their first words.
func statements() map[string]func(*reader) branch {
	return map[string]func(*reader) branch{
		"new":    (*reader).own,
		"share":  (*reader).shared,
		"let":    (*reader).let,
		"put":    (*reader).put,
		"spawn":  (*reader).spawn,
		"when":   (*reader).when,
		"each":   (*reader).each,
		"all":    (*reader).pool,
		"freeze": (*reader).freeze,
		"if":     (*reader).choice,
		"fail":   (*reader).failure,
	}
}

// block reads a block; statements that are flawed are left out.
func (r *reader) block() branch {
	first := r.next
	r.read("{")
	var stmts []branch
	for r.how == going && !r.is("}") {
		if stmt, ok := r.stmt(); ok {
			stmts = append(stmts, stmt)
		}
	}
	r.read("}")
	return r.made(first, api.TreeNode{Kind: api.BlockNode}, stmts...)
}

// stmt reads a statement, and says whether it is right. If it is not, reading goes on behind it, if it can.
func (r *reader) stmt() (branch, bool) {
	first := r.next
	var out branch
	if read, ok := r.stmts[r.token().Text]; ok {
		out = read(r)
	} else {
		r.stop()
	}
	// Where the text ends in a statement, that is told of its item.
	if r.how == stuck && r.next < len(r.tokens) {
		r.flaw()
		r.how = r.resume(first)
		return branch{}, false
	}
	return out, r.how == going
}

// own reads a statement that makes an own variable.
func (r *reader) own() branch {
	return r.variable("new", api.NewStmt)
}

// shared reads a statement that makes a shared variable.
func (r *reader) shared() branch {
	return r.variable("share", api.ShareStmt)
}

// variable reads a statement that makes a variable.
func (r *reader) variable(word string, kind uint8) branch {
	first := r.next
	r.read(word)
	text := r.name()
	r.read(":")
	kid := r.shape()
	r.read(";")
	return r.made(first, api.TreeNode{Kind: kind, Text: text}, kid)
}

// let reads a name for an integer.
func (r *reader) let() branch {
	first := r.next
	r.read("let")
	text := r.name()
	r.read("=")
	kid := r.expr()
	r.read(";")
	return r.made(first, api.TreeNode{Kind: api.LetStmt, Text: text}, kid)
}

// put reads a put.
func (r *reader) put() branch {
	first := r.next
	r.read("put")
	text := r.name()
	kid := r.point()
	r.read(";")
	return r.made(first, api.TreeNode{Kind: api.PutStmt, Text: text}, kid)
}

// spawn reads a spawn.
func (r *reader) spawn() branch {
	first := r.next
	r.read("spawn")
	text := r.name()
	kids := r.bracketed(r.expr)
	r.read(";")
	return r.made(first, api.TreeNode{Kind: api.SpawnStmt, Text: text}, kids...)
}

// when reads a wait with its cases.
func (r *reader) when() branch {
	first := r.next
	r.read("when")
	text := r.name()
	kids := r.list("or", func() branch {
		begin := r.next
		point := r.point()
		block := r.block()
		return r.made(begin, api.TreeNode{Kind: api.CaseNode}, point, block)
	})
	return r.made(first, api.TreeNode{Kind: api.WhenStmt, Text: text}, kids...)
}

// each reads a lookout.
func (r *reader) each() branch {
	first := r.next
	r.read("each")
	text := r.name()
	r.read("as")
	bind := r.named(api.BindNode)
	block := r.block()
	return r.made(first, api.TreeNode{Kind: api.EachStmt, Text: text}, bind, block)
}

// pool reads a pool.
func (r *reader) pool() branch {
	first := r.next
	r.read("all")
	kid := r.block()
	return r.made(first, api.TreeNode{Kind: api.AllStmt}, kid)
}

// freeze reads a freeze.
func (r *reader) freeze() branch {
	first := r.next
	r.read("freeze")
	text := r.name()
	r.read("as")
	kid := r.named(api.BindNode)
	r.read(";")
	return r.made(first, api.TreeNode{Kind: api.FreezeStmt, Text: text}, kid)
}

// choice reads an if.
func (r *reader) choice() branch {
	first := r.next
	r.read("if")
	expr := r.expr()
	kids := []branch{expr, r.block()}
	if r.skip("else") {
		kids = append(kids, r.block())
	}
	return r.made(first, api.TreeNode{Kind: api.IfStmt}, kids...)
}

// failure reads a fail.
func (r *reader) failure() branch {
	first := r.next
	r.read("fail")
	kid := r.expr()
	r.read(";")
	return r.made(first, api.TreeNode{Kind: api.FailStmt}, kid)
}
