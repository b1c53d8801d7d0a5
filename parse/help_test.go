package parse_test

import (
	"math/rand"
	"slices"
	"strconv"
	"strings"
	"testing"

	"dripstone/api"
	"dripstone/parse"
)

// kindName returns how a kind is called in outlines.
func kindName(kind uint8) string {
	names := map[uint8]string{
		api.ProgramNode: "program", api.LatticeItem: "lattice", api.UseItem: "use", api.TaskItem: "task", api.ElemNode: "elem",
		api.AboveNode: "above", api.ParamNode: "param", api.BindNode: "bind", api.BlockNode: "block", api.CaseNode: "case",
		api.IntType: "int", api.FlagType: "flag", api.MaxType: "max", api.SetType: "set", api.OnceType: "once", api.NamedType: "named", api.MapType: "map", api.PairType: "pair",
		api.NewStmt: "new", api.ShareStmt: "share", api.LetStmt: "let", api.PutStmt: "put", api.SpawnStmt: "spawn", api.WhenStmt: "when", api.EachStmt: "each",
		api.AllStmt: "all", api.FreezeStmt: "freeze", api.IfStmt: "if", api.FailStmt: "fail",
		api.OnPoint: "on", api.IntPoint: "at", api.SetPoint: "keys", api.NamePoint: "#", api.KeyPoint: "key", api.PairPoint: "sides",
		api.EqNode: "==", api.NeNode: "!=", api.LtNode: "<", api.LeNode: "<=", api.GtNode: ">", api.GeNode: ">=", api.AddNode: "+", api.SubNode: "-", api.MulNode: "*", api.DivNode: "/",
		api.NegNode: "neg", api.NumNode: "num", api.NameNode: "name", api.SizeNode: "size", api.HasNode: "has", api.ValueNode: "value",
	}
	return names[kind]
}

// outline returns a tree, or a part of one, as text: (kind Text N@At kids), without Text or N where it is empty or 0, and of a num always with N.
func outline(nodes []api.TreeNode) string {
	if len(nodes) == 0 {
		return ""
	}
	n := nodes[0]
	out := "(" + kindName(n.Kind)
	if n.Text != "" {
		out += " " + n.Text
	}
	if n.N != 0 || n.Kind == api.NumNode {
		out += " " + strconv.Itoa(n.N)
	}
	out += "@" + strconv.Itoa(n.At)
	for at := 1; at < n.Size; at += nodes[at].Size {
		out += " " + outline(nodes[at:at+nodes[at].Size])
	}
	return out + ")"
}

// mustParse returns the tree of a text that has no error.
func mustParse(t *testing.T, s string) api.Tree {
	t.Helper()
	x, at, e := parse.Parse(s)
	if at != 0 || e != api.OK {
		t.Fatalf("Parse of %q: %v at %d", s, e, at)
	}
	return x
}

// mustPrint returns the text of a tree that has no error.
func mustPrint(t *testing.T, x api.Tree) string {
	t.Helper()
	s, e := parse.Print(x)
	if e != api.OK {
		t.Fatalf("Print of %v: %v", x, e)
	}
	return s
}

// mustShow returns the text of a node of which there is one.
func mustShow(t *testing.T, x api.Tree, node int) string {
	t.Helper()
	s, e := parse.Show(x, node)
	if e != api.OK {
		t.Fatalf("Show of %d of %v: %v", node, x, e)
	}
	return s
}

// same says whether two trees are the same but for places, by what is in them.
func same(a, b api.Tree) bool {
	return slices.EqualFunc(a.Nodes, b.Nodes, func(x, y api.TreeNode) bool {
		return x.Kind == y.Kind && x.N == y.N && x.Text == y.Text && x.Size == y.Size
	})
}

// wholeText has every kind of nodes, and is as it is printed.
const wholeText = `lattice tint { none: red, blue; red: both; blue: both; both! }
lattice lone { one!: one }
use far(int, set, pair(map(flag), tint));
use near();
task main(n: int, x: set) {
  new a: max;
  share b: once;
  let c = n + 1 * 2 / 3 - 4;
  put x {1, c};
  spawn far(c, x, x);
  when b -1 {
  } or 2 {
    fail 3 == 4;
  }
  all {
    each x as k {
      put b k;
    }
  }
  freeze a as d;
  if value(d, 0) < n {
    share e: map(pair(flag, tint));
    put e [n] pair(on, );
    put e [1] pair(, #red);
    put e [2] pair(on, #blue);
    fail size(d) >= has(d, 1) * (2 != 1);
  } else {
    if n > 1 {
      fail n <= -1;
    }
  }
}
`

// randomTexts returns right texts, each as a row of tokens that were put together by the grammar.
func randomTexts(seed int64, n int) []string {
	r := rand.New(rand.NewSource(seed))
	g := newGrammar()
	var out []string
	for len(out) < n {
		s := spaced(r, g.derive(r, "program", 4+r.Intn(10)))
		if _, _, e := parse.Parse(s); e == api.OK {
			out = append(out, s)
		}
	}
	return out
}

// spaced puts tokens one behind the other, with random gaps.
func spaced(r *rand.Rand, tokens []string) string {
	gaps := []string{" ", " ", "  ", "\n", "\n", " \n ", " % task f\n", "%}\n"}
	var out strings.Builder
	for _, token := range tokens {
		out.WriteString(token + gaps[r.Intn(len(gaps))])
	}
	return out.String()
}
