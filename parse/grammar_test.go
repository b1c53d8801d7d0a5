package parse_test

import (
	"math/rand"
	"strings"

	"dripstone/api"
)

// grammarText is the grammar, as the chapter writes it. GONE stands for a statement that was left out.
const grammarText = `
program = { item }
item  = "lattice" NAME "{" elem { ";" elem } "}"
      | "use" NAME "(" [ type { "," type } ] ")" ";"
      | "task" NAME "(" [ param { "," param } ] ")" block
elem  = NAME [ "!" ] [ ":" above { "," above } ]
above = NAME
param = NAME ":" type
type  = "int" | shape
shape = "flag" | "max" | "set" | "once" | NAME
      | "map" "(" shape ")" | "pair" "(" shape "," shape ")"
block = "{" { stmt } "}"
bind  = NAME
stmt  = "new" NAME ":" shape ";" | "share" NAME ":" shape ";"
      | "let" NAME "=" expr ";" | "put" NAME point ";"
      | "spawn" NAME "(" [ expr { "," expr } ] ")" ";"
      | "when" NAME case { "or" case }
      | "each" NAME "as" bind block
      | "all" block | "freeze" NAME "as" bind ";"
      | "if" expr block [ "else" block ]
      | "fail" expr ";" | GONE
case  = point block
point = "on" | expr | "#" NAME
      | "{" expr { "," expr } "}" | "[" expr "]" point
      | "pair" "(" point "," [ point ] ")" | "pair" "(" "," point ")"
expr  = sum [ op sum ]
op = "==" | "!=" | "<" | "<=" | ">" | ">="
sum   = term { plus term }
plus = "+" | "-"
term  = unary { times unary }
times = "*" | "/"
unary = "-" unary | atom
atom  = NUMBER | NAME | "(" expr ")"
      | "size" "(" NAME ")" | "has" "(" NAME "," expr ")"
      | "value" "(" NAME "," expr ")"
`

// part is a part of the right side of a rule: a token, the name of a rule, what may be missing, or what stands any number of times.
type part struct {
	form  byte // " a token, N a kind of token, r a rule, [ or {
	text  string
	inner [][]part
}

// grammar has the right sides of the rules: for each of them those between which there is a choice.
type grammar map[string][][]part

// newGrammar reads grammarText.
func newGrammar() grammar {
	words := strings.Fields(grammarText)
	g := grammar{}
	for len(words) > 0 {
		name := words[0]
		g[name], words = choices(words[2:])
	}
	return g
}

// choices reads right sides up to where they end: at a closing bracket, or before the next rule.
func choices(words []string) ([][]part, []string) {
	out := [][]part{nil}
	for len(words) > 0 && words[0] != "]" && words[0] != "}" && (len(words) < 2 || words[1] != "=") {
		last := len(out) - 1
		word := words[0]
		words = words[1:]
		switch {
		case word == "|":
			out = append(out, nil)
		case word == "[" || word == "{":
			p := part{form: word[0]}
			p.inner, words = choices(words)
			words = words[1:]
			out[last] = append(out[last], p)
		case word[0] == '"':
			out[last] = append(out[last], part{form: '"', text: strings.Trim(word, `"`)})
		case word == "NAME" || word == "NUMBER" || word == "GONE":
			out[last] = append(out[last], part{form: 'N', text: word})
		default:
			out[last] = append(out[last], part{form: 'r', text: word})
		}
	}
	return out, words
}

// takes says whether a token is what a part asks for.
func (p part) takes(t api.Lexeme) bool {
	switch {
	case p.form == '"':
		return t.Text == p.text
	case p.text == "NAME":
		return t.Kind == api.NameToken
	case p.text == "GONE":
		return t.Text == "GONE"
	}
	return t.Kind == api.NumberToken
}

// stack is what must still come: a part, and what comes behind it. A part of the form e ends a statement, of which from is the first token.
type stack struct {
	part
	from int
	next *stack
}

// before puts parts before a stack.
func (k *stack) before(l []part) *stack {
	for i := len(l) - 1; i >= 0; i-- {
		k = &stack{part: l[i], next: k}
	}
	return k
}

// open replaces what stands before it until each stack begins with a token, or is empty. Statements that begin then begin with the token at. It also says whether a statement can begin.
func (g grammar) open(k *stack, at int) (out []*stack, stmt bool) {
	if k == nil {
		return []*stack{nil}, false
	}
	add := func(k *stack) {
		l, is := g.open(k, at)
		out, stmt = append(out, l...), stmt || is
	}
	switch k.form {
	case 'e':
		add(k.next)
	case 'r':
		next := k.next
		if k.text == "stmt" {
			stmt = true
			next = &stack{part: part{form: 'e'}, from: at, next: next}
		}
		for _, l := range g[k.text] {
			add(next.before(l))
		}
	case '[', '{':
		add(k.next)
		next := k.next
		if k.form == '{' {
			next = k
		}
		for _, l := range k.inner {
			add(next.before(l))
		}
	default:
		out = append(out, k)
	}
	return out, stmt
}

// statement returns the first token of the innermost statement that a stack is in, or -1.
func (k *stack) statement() int {
	for ; k != nil; k = k.next {
		if k.form == 'e' {
			return k.from
		}
	}
	return -1
}

// run reads tokens, from a rule's beginning on. It returns how many the grammar goes on with, whether it can end there, and if not: the first token of the statement that is flawed then, or -1.
func (g grammar) run(rule string, tokens []api.Lexeme) (n int, ends bool, stmt int) {
	stacks := []*stack{{part: part{form: 'r', text: rule}}}
	for at := 0; ; at++ {
		var opened []*stack
		begins := false
		for _, k := range stacks {
			l, is := g.open(k, at)
			opened, begins = append(opened, l...), begins || is
		}
		var next []*stack
		for _, k := range opened {
			if k == nil {
				ends = true
			} else if at < len(tokens) && k.takes(tokens[at]) {
				next = append(next, k.next)
			}
		}
		if next == nil || ends && rule == "item" {
			stmt = stacks[0].statement()
			if begins {
				stmt = at
			}
			return at, ends, stmt
		}
		stacks, ends = next, false
	}
}

// derive returns the texts of tokens that a rule can be. The deeper it is the less it has of what may be missing.
func (g grammar) derive(r *rand.Rand, rule string, room int) []string {
	l := g[rule]
	if rule == "stmt" {
		l = l[:len(l)-1] // none is gone
	}
	if room <= 0 { // nothing that leads on and on
		switch rule {
		case "point", "atom", "unary":
			return []string{"1"}
		case "shape", "type":
			return []string{"flag"}
		case "stmt":
			return []string{"fail", "1", ";"}
		}
	}
	return g.row(r, l[r.Intn(len(l))], room-1)
}

// row returns the texts of tokens that some parts can be.
func (g grammar) row(r *rand.Rand, l []part, room int) (out []string) {
	names := []string{"a", "b", "main", "x1"}
	numbers := []string{"0", "1", "23", "1000000000"}
	for _, p := range l {
		switch {
		case p.form == '"':
			out = append(out, p.text)
		case p.text == "NAME":
			out = append(out, names[r.Intn(len(names))])
		case p.text == "NUMBER":
			out = append(out, numbers[r.Intn(len(numbers))])
		case p.form == 'r':
			out = append(out, g.derive(r, p.text, room)...)
		case p.form == '[' && r.Intn(3) == 0 && room > 0:
			out = append(out, g.row(r, p.inner[0], room)...)
		case p.form == '{' && room > 0:
			many := 2
			if text := p.inner[0][0].text; text == "stmt" || text == "item" {
				many = 4
			}
			for r.Intn(many) > 0 {
				out = append(out, g.row(r, p.inner[0], room)...)
			}
		}
	}
	return out
}
