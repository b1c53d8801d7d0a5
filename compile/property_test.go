package compile_test

import (
	"math/rand"
	"reflect"
	"slices"
	"strconv"
	"strings"
	"testing"

	"dripstone/api"
	"dripstone/code"
	"dripstone/compile"
	"dripstone/parse"
	"dripstone/tell"
)

// isDeclaration says whether a node declares something.
func isDeclaration(n api.TreeNode) bool {
	return slices.Contains([]uint8{api.ParamNode, api.NewStmt, api.ShareStmt, api.LetStmt, api.BindNode}, n.Kind)
}

// P8.6: the code of modules is right.
func TestRight(t *testing.T) {
	for _, u := range testModules(t) {
		if e := code.Check(mustCompile(t, u)); e != api.OK {
			t.Fatalf("Check: %v of\n%s", e, mustPrint(t, u))
		}
	}
}

// P8.7: with other names of declarations, which were different and are, the code is the same: also with those of items, with those that others had, and with the same ones in each task.
func TestOtherNames(t *testing.T) {
	r := rand.New(rand.NewSource(87))
	for _, u := range testModules(t) {
		want, notes := mustCompile(t, u), mustLook(t, u)
		var names []string
		for i, n := range u.Nodes {
			names = append(names, "n"+strconv.Itoa(i))
			if n.Text != "" {
				names = append(names, n.Text)
			}
		}
		slices.Sort(names)
		names = slices.Compact(names)
		r.Shuffle(len(names), func(i, j int) { names[i], names[j] = names[j], names[i] })
		v := api.Tree{Nodes: slices.Clone(u.Nodes)}
		next := 0
		for node, n := range u.Nodes {
			// What a node means stands before it.
			d := notes.Means[node]
			switch {
			case n.Kind == api.TaskItem:
				next = 0
			case isDeclaration(n):
				v.Nodes[node].Text = names[next]
				next++
			case d >= 0 && isDeclaration(u.Nodes[d]):
				v.Nodes[node].Text = v.Nodes[d].Text
			}
		}
		if got := mustCompile(t, v); !same(got, want) {
			t.Fatalf("Compile: %s\nand not\n%s\nof\n%s", mustText(t, got), mustText(t, want), mustPrint(t, v))
		}
	}
}

// P8.7: the names of tasks are those of segments, and of what names these.
func TestNamesOfTasks(t *testing.T) {
	for _, u := range testModules(t) {
		c, notes := mustCompile(t, u), mustLook(t, u)
		for item := 1; item < len(u.Nodes); item += u.Nodes[item].Size {
			if u.Nodes[item].Kind != api.TaskItem {
				continue
			}
			old := u.Nodes[item].Text
			v := api.Tree{Nodes: slices.Clone(u.Nodes)}
			v.Nodes[item].Text = "zfresh"
			for node, n := range u.Nodes {
				if n.Kind == api.SpawnStmt && notes.Means[node] == item {
					v.Nodes[node].Text = "zfresh"
				}
			}
			renamed := func(s string) string {
				if s == old {
					return "zfresh"
				}
				if n, ok := strings.CutPrefix(s, old+"."); ok {
					return "zfresh." + n
				}
				return s
			}
			got := mustCompile(t, v)
			want := c
			want.Segments = slices.Clone(c.Segments)
			for i := range want.Segments {
				s := &want.Segments[i]
				s.Name = renamed(s.Name)
				s.Ins = slices.Clone(s.Ins)
				for at := range s.Ins {
					s.Ins[at].Name = renamed(s.Ins[at].Name)
				}
			}
			if !same(got, want) {
				t.Fatalf("Compile: %s\nand not\n%s", mustText(t, got), mustText(t, want))
			}
		}
	}
}

// lengths returns how many steps the ways of a segment have.
func lengths(s api.Segment) map[int]bool {
	out := make([]map[int]bool, len(s.Ins))
	for at := len(s.Ins) - 1; at >= 0; at-- {
		i := s.Ins[at]
		next := []int{at + 1}
		switch i.Op {
		case api.OJump:
			next = []int{i.N}
		case api.OZero:
			next = append(next, i.N)
		case api.OWhen:
			next = nil
			for _, c := range i.Cases {
				next = append(next, c.To)
			}
		case api.OFail, api.OHalt:
			next = nil
		}
		step := 0
		if slices.Contains([]uint8{api.ONote, api.ONew, api.OPut, api.OSpawn, api.OWhen, api.OEach, api.ODone, api.OFreeze, api.OFail}, i.Op) {
			step = 1
		}
		out[at] = map[int]bool{}
		if len(next) == 0 {
			out[at][step] = true
		}
		for _, to := range next {
			for n := range out[to] {
				out[at][n+step] = true
			}
		}
	}
	return out[0]
}

// P8.8: a task that has ended, or failed by a FailStmt, has as many steps as a way of its segment.
func TestSteps(t *testing.T) {
	r := rand.New(rand.NewSource(88))
	ended, failed := 0, 0
	for _, u := range testModules(t) {
		if !isProgram(u) {
			continue
		}
		c, homes := mustCompile(t, u), mustHomes(t, u)
		for range 3 {
			in := inputs(u, r)
			h, e := tell.Log(u, in)
			if e != api.OK {
				continue
			}
			steps, done := make([]int, len(h.Actors)), make([]bool, len(h.Actors))
			for _, x := range h.Events {
				byStmt := x.Kind == api.EventFail && u.Nodes[x.Node].Kind == api.FailStmt
				if x.Kind != api.EventKey && x.Kind != api.EventEnd && x.Kind != api.EventFail || byStmt {
					steps[x.Task]++
				}
				done[x.Task] = done[x.Task] || x.Kind == api.EventEnd || byStmt
				if x.Kind == api.EventEnd {
					ended++
				} else if byStmt {
					failed++
				}
			}
			for n, actor := range h.Actors {
				if !done[n] {
					continue
				}
				segment := slices.Index(homes, actor.Node)
				least, most, e := code.Steps(c, segment)
				if e != api.OK || steps[n] < least || steps[n] > most || !lengths(c.Segments[segment])[steps[n]] {
					t.Fatalf("the task %d has %d steps; Steps of its segment: %d, %d, %v of\n%s", n, steps[n], least, most, e, mustPrint(t, u))
				}
			}
		}
	}
	if ended < 300 || failed < 20 {
		t.Errorf("only %d tasks have ended, and %d failed", ended, failed)
	}
}

// P8.8: the sites of a segment are those of its home's level.
func TestSitesOfLevels(t *testing.T) {
	for _, u := range testModules(t) {
		c, notes := mustCompile(t, u), mustLook(t, u)
		want := map[int][]int{}
		all := pieces(u)
		for node, site := range notes.Sites {
			if site < 0 {
				continue
			}
			home := all[node].up
			for !home.is(api.TaskItem, api.EachStmt) {
				home = home.up
			}
			want[home.n] = append(want[home.n], site)
		}
		for i, home := range mustHomes(t, u) {
			if got, e := code.Sites(c, i); e != api.OK || !slices.Equal(got, want[home]) {
				t.Fatalf("Sites of %d: %v, %v, and not %v of\n%s", i, got, e, want[home], mustPrint(t, u))
			}
		}
	}
}

// P8.9: with another task behind all items the segments of those before are the same.
func TestAnotherTask(t *testing.T) {
	more := 0
	for _, u := range testModules(t)[100:] {
		s := mustPrint(t, u) + "lattice zlat { a: b; b } task zlast(n: int, x: map(map(set)), y: pair(zlat, pair(max, max))) { new z: map(zlat); let m = n; all { each z as k { put x [m] [k] {n}; } spawn zlast(n, x, y); } }"
		v, _, e := parse.Parse(s)
		if e != api.OK || len(v.Nodes) < len(u.Nodes) {
			// It has too much of something.
			continue
		}
		more++
		c, d := mustCompile(t, u), mustCompile(t, v)
		if len(d.Segments) != len(c.Segments)+2 || !same(d.Segments[:len(c.Segments)], c.Segments) || !same(d.Shapes[:len(c.Shapes)], c.Shapes) || !same(d.Uses, c.Uses) {
			t.Fatalf("Compile: %s\nand before\n%s", mustText(t, d), mustText(t, c))
		}
		if a, b := mustOrigins(t, u), mustOrigins(t, v); !same(b[:len(a)], a) {
			t.Fatalf("Origins: %v, and before %v", b, a)
		}
		for _, home := range mustHomes(t, u) {
			a, b := mustRegisters(t, u, home), mustRegisters(t, v, home)
			if !same(mustSegment(t, u, home), mustSegment(t, v, home)) || !slices.Equal(a, b[:len(a)]) || slices.Max(append(b[len(a):], -1)) != -1 {
				t.Fatalf("Segment and Registers of %d differ: %v, %v of\n%s", home, a, b, s)
			}
		}
	}
	if more < 200 {
		t.Errorf("only %d modules have another task", more)
	}
}

// P2, R4: equal results for equal arguments, in new memory; the tree stays as it is, and so does what lies behind its end.
func TestMemory(t *testing.T) {
	for _, s := range moduleTexts() {
		u := mustParse(t, s)
		room := append(slices.Clone(u.Nodes), api.TreeNode{Text: "behind"})
		given := api.Tree{Nodes: room[:len(u.Nodes)]}
		for node := range u.Nodes {
			want := answers(u, node)
			for _, a := range answers(given, node) {
				spoil(reflect.ValueOf(a.got))
			}
			if got := answers(given, node); !reflect.DeepEqual(got, want) {
				t.Fatalf("of %q: %v, and then %v", s, want, got)
			}
			if !slices.Equal(given.Nodes, u.Nodes) || room[len(u.Nodes)].Text != "behind" {
				t.Fatalf("of %q: the tree has changed", s)
			}
		}
	}
}

// spoil changes all numbers, bools and texts in the lists of a result, and in the spare room of these.
func spoil(v reflect.Value) {
	switch v.Kind() {
	case reflect.Struct:
		for i := range v.NumField() {
			spoil(v.Field(i))
		}
	case reflect.Slice:
		v = v.Slice(0, v.Cap())
		for i := range v.Len() {
			spoil(v.Index(i))
		}
	case reflect.Int:
		if v.CanSet() {
			v.SetInt(v.Int() + 77)
		}
	case reflect.Uint8:
		if v.CanSet() {
			v.SetUint(v.Uint() + 7)
		}
	case reflect.Bool:
		if v.CanSet() {
			v.SetBool(!v.Bool())
		}
	case reflect.String:
		if v.CanSet() {
			v.SetString(v.String() + "x")
		}
	}
}

// No two lists of one result share memory.
func TestApart(t *testing.T) {
	for _, s := range moduleTexts() {
		u := mustParse(t, s)
		for _, home := range mustHomes(t, u) {
			for name, a := range answers(u, home) {
				if a.e != api.OK {
					t.Fatalf("%s: %v", name, a.e)
				}
				apart(t, name, reflect.ValueOf(a.got), map[uintptr]bool{})
			}
		}
	}
}

// apart goes through the lists of a result, and tells if some elements of them, or of their spare room, were met before.
func apart(t *testing.T, name string, v reflect.Value, met map[uintptr]bool) {
	t.Helper()
	switch v.Kind() {
	case reflect.Struct:
		for i := range v.NumField() {
			apart(t, name, v.Field(i), met)
		}
	case reflect.Slice:
		v = v.Slice(0, v.Cap())
		for i := range v.Len() {
			at := v.Index(i).Addr().Pointer()
			if met[at] {
				t.Errorf("%s: two lists of one result share memory", name)
			}
			met[at] = true
		}
		for i := range v.Len() {
			apart(t, name, v.Index(i), met)
		}
	}
}

// R3: a tree without any node is one whose list is nil, or empty.
func TestNothing(t *testing.T) {
	for name, a := range answers(api.Tree{Nodes: []api.TreeNode{}}, 0) {
		if a.e != api.ErrForm || !a.empty() {
			t.Errorf("%s: %v", name, a)
		}
	}
	u := mustParse(t, "")
	if c, e := compile.Compile(u); e != api.OK || !same(c, api.Code{}) {
		t.Errorf("Compile: %v, %v", c, e)
	}
}
