package code

import (
	"strings"

	"dripstone/api"
)

// words are the words of operations.
var words = [...]string{
	api.OInt: "int", api.OArith: "arith",
	api.OOn: "on", api.OName: "name", api.OPoint: "point", api.OSet: "set", api.OKey: "key", api.OPair: "pair", api.OJoin: "join",
	api.ONew: "new", api.OPut: "put", api.OSpawn: "spawn", api.OWhen: "when", api.OEach: "each",
	api.OAll: "all", api.ODone: "done", api.OFreeze: "freeze", api.OSize: "size", api.OHas: "has", api.OValue: "value",
	api.OJump: "jump", api.OZero: "zero", api.ONote: "note", api.OFail: "fail", api.OHalt: "halt",
}

// fields are the fields of the instructions of each operation, in the order of their text, by letters: A, B and C are registers, b and c registers or -1, V in B is whether a variable is shared; in N stand I, an integer, E, an element of a table, or P, a place; S is a shape, T a site; in Name stand W, a word of arithmetic, or L, the name of a task; R are Args, K Cases.
var fields = [...]string{
	api.OInt: "AI", api.OArith: "AWBC",
	api.OOn: "AS", api.OName: "ASE", api.OPoint: "ASB", api.OSet: "ASB", api.OKey: "ASBC", api.OPair: "ASbc", api.OJoin: "ASBC",
	api.ONew: "ASVT", api.OPut: "AB", api.OSpawn: "LTR", api.OWhen: "ATK", api.OEach: "ALTR",
	api.OAll: "T", api.ODone: "T", api.OFreeze: "ABT", api.OSize: "AB", api.OHas: "ABC", api.OValue: "ABC",
	api.OJump: "P", api.OZero: "AP", api.ONote: "", api.OFail: "A", api.OHalt: "",
}

// neg is the word of the arithmetic of a single integer.
const neg = "neg"

// isArithmetic says whether a word is one of arithmetic.
func isArithmetic(word string) bool {
	switch word {
	case "add", "sub", "mul", "div", neg, "eq", "ne", "lt", "le", "gt", "ge":
		return true
	}
	return false
}

// operation returns the operation with a word, or 0, if there is none.
func operation(word string) uint8 {
	for op, w := range words {
		if w == word {
			return uint8(op)
		}
	}
	return 0
}

// isOperation says whether there is an operation with a number.
func isOperation(op uint8) bool {
	return op >= api.OInt && op <= api.OHalt
}

// fieldsOf returns the letters of the fields of an instruction, whose operation there is.
func fieldsOf(i api.Ins) string {
	if i.Op == api.OArith && i.Name == neg {
		return strings.TrimSuffix(fields[i.Op], "C")
	}
	return fields[i.Op]
}

// has says whether an instruction has a field with one of some letters.
func has(i api.Ins, letters ...byte) bool {
	return strings.ContainsAny(fieldsOf(i), string(letters))
}

// bare says whether the fields that an instruction has not are zero, or empty.
func bare(i api.Ins) bool {
	return (i.A == 0 || has(i, 'A')) &&
		(i.B == 0 || has(i, 'B', 'b', 'V')) &&
		(i.C == 0 || has(i, 'C', 'c')) &&
		(i.N == 0 || has(i, 'I', 'E', 'P')) &&
		(i.S == 0 || has(i, 'S')) &&
		(i.Site == 0 || has(i, 'T')) &&
		(i.Name == "" || has(i, 'W', 'L')) &&
		(len(i.Args) == 0 || has(i, 'R')) &&
		(len(i.Cases) == 0 || has(i, 'K'))
}

// number returns where the number of a field with a letter stands, or nil, if it is no number.
func number(i *api.Ins, letter byte) *int {
	switch letter {
	case 'A':
		return &i.A
	case 'B', 'b', 'V':
		return &i.B
	case 'C', 'c':
		return &i.C
	case 'I', 'E', 'P':
		return &i.N
	case 'S':
		return &i.S
	case 'T':
		return &i.Site
	}
	return nil
}
