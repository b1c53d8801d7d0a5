package code_test

import (
	"fmt"
	"math/rand"
	"strings"
	"testing"

	"dripstone/api"
	"dripstone/code"
)

// P7.6: the text of a module, and the module with a text.
func TestText(t *testing.T) {
	for _, s := range []string{
		"", exampleText, wholeText, callsText, shapesText, "shape map(map(map(set)))\n", "lattice l { a }\n", "lattice l { a }\nshape l\n", "lattice l { a }\nlattice m { b: c; c! }\nshape map(m)\nshape m\n",
		"use a\n", "use a int int\nuse b.9\n", "shape max\nuse far s0 v0 int v0\n", segmentText("a 0", "halt"), segmentText("a 60 int", "fail r0"), "shape max\n" + segmentText("a 3 v0 s0 int", "halt"),
	} {
		c := mustParse(t, s)
		if again := mustText(t, c); again != s {
			t.Errorf("Text: %s, and not %s", again, s)
		}
		if d := readCode(t, s); !sameCode(c, d) {
			t.Errorf("Parse: %v, and not %v", c, d)
		}
	}
}

// P7.6: each instruction, and its text.
func TestTextOfInstructions(t *testing.T) {
	for i, x := range []struct {
		ins  api.Ins
		text string
	}{
		{api.Ins{Op: api.OInt, A: 5, N: -7}, "int r5 -7"},
		{api.Ins{Op: api.OInt, A: 17, N: 1000000000}, "int r17 1000000000"},
		{api.Ins{Op: api.OArith, A: 5, Name: "le", B: 6, C: 7}, "arith r5 le r6 r7"},
		{api.Ins{Op: api.OArith, A: 5, Name: "neg", B: 6}, "arith r5 neg r6"},
		{api.Ins{Op: api.OOn, A: 5, S: 2}, "on r5 s2"},
		{api.Ins{Op: api.OName, A: 5, S: 4, N: 3}, "name r5 s4 3"},
		{api.Ins{Op: api.OPoint, A: 5, S: 3, B: 6}, "point r5 s3 r6"},
		{api.Ins{Op: api.OSet, A: 5, S: 0, B: 6}, "set r5 s0 r6"},
		{api.Ins{Op: api.OKey, A: 5, S: 7, B: 6, C: 8}, "key r5 s7 r6 r8"},
		{api.Ins{Op: api.OPair, A: 5, S: 6, B: 6, C: 8}, "pair r5 s6 r6 r8"},
		{api.Ins{Op: api.OPair, A: 5, S: 6, B: -1, C: 8}, "pair r5 s6 - r8"},
		{api.Ins{Op: api.OPair, A: 5, S: 6, B: 6, C: -1}, "pair r5 s6 r6 -"},
		{api.Ins{Op: api.OJoin, A: 5, S: 1, B: 6, C: 8}, "join r5 s1 r6 r8"},
		{api.Ins{Op: api.ONew, A: 5, S: 1, B: 0, Site: 600}, "new r5 s1 own 600"},
		{api.Ins{Op: api.ONew, A: 5, S: 1, B: 1, Site: 0}, "new r5 s1 shared 0"},
		{api.Ins{Op: api.OPut, A: 5, B: 6}, "put r5 r6"},
		{api.Ins{Op: api.OSpawn, Name: "none", Site: 12}, "spawn none 12"},
		{api.Ins{Op: api.OSpawn, Name: "f.0", Site: 12, Args: []int{5, 19}}, "spawn f.0 12 r5 r19"},
		{api.Ins{Op: api.OWhen, A: 5, Site: 12, Cases: []api.Case{{Reg: 6, To: 2}}}, "when r5 12 r6>2"},
		{api.Ins{Op: api.OWhen, A: 5, Site: 12, Cases: []api.Case{{Reg: 6, To: 2}, {Reg: 19, To: 3}, {Reg: 0, To: 2}, {Reg: 1, To: 3}}}, "when r5 12 r6>2 r19>3 r0>2 r1>3"},
		{api.Ins{Op: api.OEach, A: 5, Name: "f.0", Site: 12}, "each r5 f.0 12"},
		{api.Ins{Op: api.OEach, A: 5, Name: "f.0", Site: 12, Args: []int{5, 19}}, "each r5 f.0 12 r5 r19"},
		{api.Ins{Op: api.OAll, Site: 12}, "all 12"},
		{api.Ins{Op: api.ODone, Site: 12}, "done 12"},
		{api.Ins{Op: api.OFreeze, A: 5, B: 6, Site: 12}, "freeze r5 r6 12"},
		{api.Ins{Op: api.OSize, A: 5, B: 6}, "size r5 r6"},
		{api.Ins{Op: api.OHas, A: 5, B: 6, C: 7}, "has r5 r6 r7"},
		{api.Ins{Op: api.OValue, A: 5, B: 6, C: 7}, "value r5 r6 r7"},
		{api.Ins{Op: api.OJump, N: 2}, "jump 2"},
		{api.Ins{Op: api.OZero, A: 5, N: 3}, "zero r5 3"},
		{api.Ins{Op: api.ONote}, "note"},
		{api.Ins{Op: api.OFail, A: 5}, "fail r5"},
		{api.Ins{Op: api.OHalt}, "halt"},
	} {
		// It is not reached, so that nothing is asked of what registers hold.
		head := shapesText + "use none\nuse f.1\n"
		s := head + segmentText("main 20 int", "halt", x.text, "halt", "halt") + segmentText("f.0 0", "halt")
		c := mustParse(t, s)
		if !sameIns(c.Segments[0].Ins[1], x.ins) {
			t.Errorf("%d: Parse of %s: %v", i, x.text, c.Segments[0].Ins[1])
		}
		c.Segments[0].Ins[1] = x.ins
		if got := mustText(t, c); got != s {
			t.Errorf("%d: Text: %s, and not %s", i, got, s)
		}
		less := x.text[:max(0, strings.LastIndex(x.text, " "))]
		if len(x.ins.Args)+len(x.ins.Cases) > 1 || len(x.ins.Args) == 1 {
			less = ""
		}
		// With one word more or less, or another one, it is none.
		for _, odd := range []string{x.text + " ", x.text + " x", x.text + " 1", x.text + " r1 r1 r1 r1 -", " " + x.text, less, strings.Replace(x.text, " ", "  ", 1), strings.ToUpper(x.text[:1]) + x.text[1:], strings.Replace(x.text, " r", " ", 1), strings.Replace(x.text, " r", " s", 1), strings.Replace(x.text, " r", " r0", 1), strings.Replace(x.text, " s", " ", 1), strings.Replace(x.text, ">", " > ", 1), strings.Replace(x.text, ">", "-", 1), strings.Replace(x.text, " 12", " +12", 1), strings.Replace(x.text, " 12", " 012", 1), strings.Replace(x.text, " 12", " 0x12", 1), strings.Replace(x.text, " 12", " 12.", 1), x.text + "\t", strings.Replace(x.text, "own", "-", 1), strings.Replace(x.text, "own", "0", 1), strings.Replace(x.text, "shared", "1", 1), x.text + "\n"} {
			if odd == x.text {
				continue
			}
			if c, e := code.Parse(head + segmentText("main 20 int", "halt", odd, "halt", "halt") + segmentText("f.0 0", "halt")); e != api.ErrForm || !sameCode(c, api.Code{}) {
				t.Errorf("%d: Parse of %q: %v, %v", i, odd, e, c)
			}
		}
	}
}

// P7.6: texts of no module.
func TestTextOfNone(t *testing.T) {
	for _, s := range []string{
		"\n", " ", "x", "x\n", "%\n", "halt\n", "  halt\n", exampleText + "\n", "\n" + exampleText, " " + exampleText, strings.TrimSuffix(exampleText, "\n"), strings.ReplaceAll(exampleText, "\n", "\r\n"), strings.Replace(exampleText, "\n  all", "\n\n  all", 1),
		strings.Replace(exampleText, "  all", "   all", 1), strings.Replace(exampleText, "  all", " all", 1), strings.Replace(exampleText, "  all", "\tall", 1), strings.Replace(exampleText, "halt\n", "halt \n", 1), strings.Replace(exampleText, "halt\n", "halt%\n", 1),
		strings.Replace(exampleText, "own", "mine", 1), strings.Replace(exampleText, "  all 1\n", "", 1), strings.Replace(exampleText, "main 4", "main 04", 1), strings.Replace(exampleText, "main 4", "main +4", 1), strings.Replace(exampleText, "main 4", "main r4", 1), strings.Replace(exampleText, "main 4", "main 4 ", 1), strings.Replace(exampleText, "main 4", "main", 1), strings.Replace(exampleText, "main 4", "main 4 4", 1), strings.Replace(exampleText, "main 4", "4 main", 1), strings.Replace(exampleText, "segment main", "segment  main", 1), strings.Replace(exampleText, "segment main", "task main", 1), strings.Replace(exampleText, "shape set", "shape  set", 1), strings.Replace(exampleText, "shape set", "shape set ", 1), strings.Replace(exampleText, "shape set", "shape sets", 1), strings.Replace(exampleText, "shape set", "set", 1),
		"shape\n", "shape min\n", "shape max\nshape max\n", "shape map(max, set)\n", "shape pair(max,set)\n", "shape map(map(map(map(max))))\n", "shape l\n", "use\n", "use \n", "use a \n", "use A\n", "use a s0\n", "use a v0\n", "use a -1\n", "use a int,int\n", "use a\nuse a\n", "use a\nshape max\n", "shape max\nlattice l { a }\n", "shape max\nuse a s00\n", "shape max\nuse a s-0\n", "shape max\nuse a v-1\n", "shape max\nuse a r0\n", "shape max\nuse a 0\n",
		"lattice l { a }", "lattice l {a}\n", "lattice l { a }\nlattice l { a }\n", "lattice l { a: b; b: a }\n", "lattice l { a }\nlattice m { b!: c; c! }\n", "lattice l { }\n",
		segmentText("a 0", "halt") + "use b\n", segmentText("a 0", "halt") + "shape max\n", segmentText("a 0", "halt") + segmentText("a 0", "halt"), segmentText("a 0"), segmentText("a 0", "note"), segmentText("a 0", "jump 0", "halt"), segmentText("a 0", "jump 1", "halt") + "  halt", segmentText("a 99999999999999999999", "halt"), segmentText("a 1 int", "int r0 99999999999999999999", "halt"), segmentText("a -1", "halt"), segmentText("a 61", "halt"), segmentText("a 1 v9223372036854775807", "halt"), segmentText("a 1 v9223372036854775806", "halt"), segmentText("a 1 s-1", "halt"), segmentText("a 1 s-2", "halt"),
		strings.Repeat("shape max\n", 41), strings.Repeat("x\n", 30000), strings.Repeat("shape map(\n", 5000), "shape " + strings.Repeat("map(", 14000) + "\n", "shape " + strings.Repeat("pair(", 11000) + "\n", "use " + strings.Repeat("a ", 29000) + "\n", segmentText("a 0", strings.Repeat("halt ", 11000)),
	} {
		if c, e := code.Parse(s); e != api.ErrForm || !sameCode(c, api.Code{}) {
			t.Errorf("Parse of %q: %v, %v", s[:min(len(s), 200)], e, c)
		}
	}
}

// P7.6: texts of so many bytes as there may be, and of more.
func TestLongText(t *testing.T) {
	// Spawns have long texts.
	body := "shape set\nuse " + strings.Repeat("u", 20) + strings.Repeat(" s0", 12) + "\nsegment a 60 s0\n"
	for i := 0; len(body) < 59700 && i < 600; i++ {
		body += fmt.Sprintf("  spawn %s %d%s\n", strings.Repeat("u", 20), i, strings.Repeat(" r0", 12))
	}
	body += "  halt\nsegment b 60 s0\n"
	for i := 0; len(body) < 59800; i++ {
		body += fmt.Sprintf("  spawn %s %d%s\n", strings.Repeat("u", 20), i, strings.Repeat(" r0", 12))
	}
	// fill returns the text with so many bytes.
	fill := func(n int) string {
		last, out := "  halt\n", body
		for ; n-len(out)-len(last) > 19; out += "  note\n" {
		}
		return out + "  int r5 " + strings.Repeat("1", n-len(out)-len(last)-10) + "\n" + last
	}
	for _, n := range []int{59999, 60000} {
		s := fill(n)
		if len(s) != n {
			t.Fatalf("the text has %d bytes, and not %d", len(s), n)
		}
		c := mustParse(t, s)
		if again := mustText(t, c); again != s {
			t.Errorf("Text of a module with %d bytes is another one", n)
		}
		if n < 60000 {
			continue
		}
		ins := c.Segments[len(c.Segments)-1].Ins
		ins[len(ins)-2].A = 15
		for _, a := range answers(c, 0, 0, 0, "a") {
			if a.name == "Text" && (a.e != api.ErrLimit || !a.zero) || a.name != "Text" && a.e != api.OK {
				t.Errorf("%s of a module with 60001 bytes: %v", a.name, a.e)
			}
		}
		if c, e := code.Parse(strings.Replace(s, "int r5", "int r15", 1)); e != api.ErrLimit || !sameCode(c, api.Code{}) {
			t.Errorf("Parse of 60001 bytes: %v", e)
		}
	}
	for _, n := range []int{60001, 100000} {
		if c, e := code.Parse(strings.Repeat("x", n)); e != api.ErrLimit || !sameCode(c, api.Code{}) {
			t.Errorf("Parse of %d bytes: %v", n, e)
		}
	}
	if _, e := code.Parse(strings.Repeat("x", 60000)); e != api.ErrForm {
		t.Errorf("Parse of 60000 bytes: %v", e)
	}
}

// P7.8: a text that is read is that of what Parse returns; of any other text there is an error.
func TestChangedTexts(t *testing.T) {
	r := rand.New(rand.NewSource(78))
	good, bad := 0, 0
	for _, s := range []string{exampleText, wholeText, callsText} {
		words := strings.Fields(s)
		for range 4000 {
			b := []byte(s)
			at := r.Intn(len(b))
			switch r.Intn(4) {
			case 0:
				b[at] = one(r, []byte(" \n0123456789rsv->.abc")...)
			case 1:
				b = append(b[:at:at], b[at+1:]...)
			case 2:
				b = append(append(b[:at:at], one(r, []byte(" \n0123456789rsv->")...)), b[at:]...)
			default:
				b = []byte(strings.Replace(s, one(r, words...), one(r, words...), 1))
			}
			c, e := code.Parse(string(b))
			switch e {
			case api.OK:
				good++
				if again := mustText(t, c); again != string(b) {
					t.Fatalf("Text of what was read of %q: %q", b, again)
				}
				if code.Check(c) != api.OK {
					t.Fatalf("Parse of %q is not right", b)
				}
			case api.ErrForm:
				bad++
				if !sameCode(c, api.Code{}) {
					t.Fatalf("Parse of %q: %v", b, c)
				}
			default:
				t.Fatalf("Parse of %q: %v", b, e)
			}
		}
	}
	if good < 500 || bad < 5000 {
		t.Errorf("%d texts were read, %d not", good, bad)
	}
}
