package check_test

import (
	"strconv"
	"strings"
	"testing"

	"dripstone/api"
	"dripstone/check"
)

// R7: as many nodes, and as many of them one in the other, as there may be.
func TestGreatest(t *testing.T) {
	// Program, task, block; six times a pool and an each with their blocks; a fail, a sum and a number.
	var text strings.Builder
	text.WriteString("task main() { ")
	for i := range 6 {
		n := strconv.Itoa(i)
		text.WriteString("new x" + n + ": set; all { each x" + n + " as k" + n + " { ")
	}
	text.WriteString("fail k0 + k5; ")
	for i := range 6 {
		text.WriteString("put x" + strconv.Itoa(i) + " {1}; ")
	}
	text.WriteString(strings.Repeat("} } ", 6) + "} ")
	u := mustParse(t, text.String())
	notes := mustLook(t, u)
	sums := ofKind(u, api.AddNode)
	if notes.Pools[sums[0]] != 0 || notes.Means[sums[0]+1] != ofKind(u, api.BindNode)[0] {
		t.Errorf("Look: %v", notes)
	}
	for i, each := range ofKind(u, api.EachStmt) {
		l, e := check.Captures(u, each)
		// The sets and keys of all outer levels that are meant, and its own set.
		want := i + 1
		if i > 0 {
			want++
		}
		if len(l) != want || e != api.OK {
			t.Errorf("Captures of the each %d: %s, %v", i, nodeNames(u, l), e)
		}
	}
	compareNotes(t, u)
	compareNodes(t, u)
	x := grown(u)
	x.kids = append(x.kids, padding("f", 250), padding("g", api.MaxNodes-len(u.Nodes)-250))
	v := x.tree()
	if len(v.Nodes) != api.MaxNodes {
		t.Fatalf("there are %d nodes", len(v.Nodes))
	}
	mustLook(t, v)
	compare(t, v)
	compareNotes(t, v)
	x.kids[1].kids[0].kids[0].kids[0] = &twig{TreeNode: api.TreeNode{Kind: api.NegNode}, kids: []*twig{x.kids[1].kids[0].kids[0].kids[0]}}
	if node, e := check.Module(x.tree()); node != 0 || e != api.ErrLimit {
		t.Errorf("Module of a tree with a node too many: %v at the node %d", e, node)
	}
}

// padding returns a task with so many nodes, from 26 to 266.
func padding(name string, nodes int) *twig {
	block := &twig{TreeNode: api.TreeNode{Kind: api.BlockNode}}
	nodes -= 2
	for i := api.MaxStmts; i > 0; i-- {
		stmt := &twig{TreeNode: api.TreeNode{Kind: api.FailStmt}}
		at := stmt
		for range nodes/i - 2 {
			at.kids = []*twig{{TreeNode: api.TreeNode{Kind: api.NegNode}}}
			at = at.kids[0]
		}
		at.kids = []*twig{{TreeNode: api.TreeNode{Kind: api.NumNode}}}
		nodes -= nodes / i
		block.kids = append(block.kids, stmt)
	}
	return &twig{TreeNode: api.TreeNode{Kind: api.TaskItem, Text: name}, kids: []*twig{block}}
}
