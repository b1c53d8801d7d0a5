package check

import "dripstone/api"

// moduleError returns the error of a module with its node: that of the first group that has one, at the first node.
func (v *view) moduleError() (int, api.Errno) {
	for _, group := range []func(int) api.Errno{v.nameError, v.typeError, v.growthError} {
		for node := range v.Nodes {
			if e := group(node); e != api.OK {
				return node, e
			}
		}
	}
	return 0, api.OK
}

// programError returns what keeps a module from being a program, with its node.
func (v *view) programError() (int, api.Errno) {
	main := first(v.kids(0, api.TaskItem), func(task int) bool { return v.Nodes[task].Text == "main" })
	if main < 0 {
		return 0, api.ErrNone
	}
	variable := func(param int) bool { return v.Types[param].Kind != api.TypeInt }
	if param := first(v.kids(main, api.ParamNode), variable); param >= 0 {
		return param, api.ErrType
	}
	for use := range v.kids(0, api.UseItem) {
		return use, api.ErrState
	}
	return 0, api.OK
}
