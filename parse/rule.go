package parse

import "dripstone/api"

// kinds are the kinds from one to another one.
type kinds struct{ from, to uint8 }

// only returns just one kind.
func only(kind uint8) kinds {
	return kinds{kind, kind}
}

// rule says what nodes of a kind have.
type rule struct {
	named       bool    // a Text
	low, high   int     // N, from one to the other
	first       []kinds // the kids that stand first
	many        kinds   // the kids behind them, of which there can be from least to most
	least, most int
	last        []kinds // the kids that stand last
}

// ruleOf returns the rule of a kind, and whether it is a kind.
func ruleOf(kind uint8) (rule, bool) {
	shape := kinds{api.FlagType, api.PairType}
	anyType := kinds{api.IntType, api.PairType}
	block := only(api.BlockNode)
	switch kind {
	case api.ProgramNode:
		return rule{many: kinds{api.LatticeItem, api.TaskItem}, most: api.MaxItems}, true
	case api.LatticeItem:
		return rule{named: true, many: only(api.ElemNode), least: 1, most: api.MaxElems}, true
	case api.UseItem:
		return rule{named: true, many: anyType, most: api.MaxParams}, true
	case api.TaskItem:
		return rule{named: true, many: only(api.ParamNode), most: api.MaxParams, last: []kinds{block}}, true
	case api.ElemNode:
		return rule{named: true, high: 1, many: only(api.AboveNode), most: api.MaxElems}, true
	case api.AboveNode, api.BindNode, api.NamedType:
		return rule{named: true}, true
	case api.ParamNode:
		return rule{named: true, first: []kinds{anyType}}, true
	case api.BlockNode:
		return rule{many: kinds{api.NewStmt, api.FailStmt}, most: api.MaxStmts}, true
	case api.CaseNode:
		return rule{first: []kinds{{api.OnPoint, api.PairPoint}, block}}, true
	case api.IntType, api.FlagType, api.MaxType, api.SetType, api.OnceType:
		return rule{}, true
	case api.MapType:
		return rule{first: []kinds{shape}}, true
	case api.PairType:
		return rule{first: []kinds{shape, shape}}, true
	}
	return stmtRule(kind)
}

// stmtRule returns the rule of a kind of statements, points or exprs, and whether it is one.
func stmtRule(kind uint8) (rule, bool) {
	point := kinds{api.OnPoint, api.PairPoint}
	expr := kinds{api.EqNode, api.ValueNode}
	block := only(api.BlockNode)
	switch kind {
	case api.NewStmt, api.ShareStmt:
		return rule{named: true, first: []kinds{{api.FlagType, api.PairType}}}, true
	case api.PutStmt:
		return rule{named: true, first: []kinds{point}}, true
	case api.SpawnStmt:
		return rule{named: true, many: expr, most: api.MaxParams}, true
	case api.WhenStmt:
		return rule{named: true, many: only(api.CaseNode), least: 1, most: api.MaxCases}, true
	case api.EachStmt:
		return rule{named: true, first: []kinds{only(api.BindNode), block}}, true
	case api.AllStmt:
		return rule{first: []kinds{block}}, true
	case api.FreezeStmt:
		return rule{named: true, first: []kinds{only(api.BindNode)}}, true
	case api.IfStmt:
		return rule{first: []kinds{expr, block}, many: block, most: 1}, true
	case api.OnPoint:
		return rule{}, true
	case api.SetPoint:
		return rule{many: expr, least: 1, most: api.MaxPoint}, true
	case api.KeyPoint:
		return rule{first: []kinds{expr, point}}, true
	case api.PairPoint:
		return rule{low: 1, high: 3, many: point, least: 1, most: 2}, true
	case api.FailStmt, api.IntPoint, api.NegNode:
		return rule{first: []kinds{expr}}, true
	case api.NumNode:
		return rule{high: api.MaxNumber}, true
	case api.NamePoint, api.NameNode, api.SizeNode:
		return rule{named: true}, true
	case api.LetStmt, api.HasNode, api.ValueNode:
		return rule{named: true, first: []kinds{expr}}, true
	}
	_, ok := operatorOf(kind)
	return rule{first: []kinds{expr, expr}}, ok
}

// repeated returns how many of the kids of a node, of which there are some, are those of which there can be many.
func (u rule) repeated(kids int) int {
	return kids - len(u.first) - len(u.last)
}

// kid returns of which kinds a kid is, by its number among some kids.
func (u rule) kid(i, kids int) kinds {
	switch {
	case i < len(u.first):
		return u.first[i]
	case i >= kids-len(u.last):
		return u.last[i-(kids-len(u.last))]
	}
	return u.many
}
