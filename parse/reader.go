package parse

import "dripstone/api"

// course is how reading goes.
type course uint8

const (
	// going: all tokens so far were right.
	going course = iota
	// stuck: the grammar does not go on with the next token, or there is none.
	stuck
	// lost: the next token begins another item, and the flaw of this one is told.
	lost
)

// reader reads tokens into branches. Where reading is not going, each of its methods leaves all as it is: what they return then is of no use.
type reader struct {
	text   string
	tokens []api.Lexeme
	next   int
	how    course
	flaws  []api.Flaw
	stmts  map[string]func(*reader) branch
}

// newReader returns a reader of the tokens of a text.
func newReader(text string, tokens []api.Lexeme) *reader {
	return &reader{text: text, tokens: tokens, stmts: statements()}
}

// token returns the next token; behind the last one it is one without a text, at the end.
func (r *reader) token() api.Lexeme {
	if r.next == len(r.tokens) {
		return api.Lexeme{At: len(r.text)}
	}
	return r.tokens[r.next]
}

// stop ends reading at the next token.
func (r *reader) stop() {
	if r.how == going {
		r.how = stuck
	}
}

// is says whether the next token has a text.
func (r *reader) is(text string) bool {
	return r.how == going && r.token().Text == text
}

// skip reads the next token if it has a text, and says whether it has.
func (r *reader) skip(text string) bool {
	if !r.is(text) {
		return false
	}
	r.next++
	return true
}

// read reads a token that must have a text.
func (r *reader) read(text string) {
	if !r.skip(text) {
		r.stop()
	}
}

// kind reads a token of a kind, and returns its text.
func (r *reader) kind(kind uint8) string {
	t := r.token()
	if r.how != going || t.Kind != kind {
		r.stop()
		return ""
	}
	r.next++
	return t.Text
}

// name reads a name.
func (r *reader) name() string {
	return r.kind(api.NameToken)
}

// made returns the branch of a node for which all tokens from one on were read.
func (r *reader) made(first int, n api.TreeNode, kids ...branch) branch {
	if r.how != going {
		return branch{}
	}
	last := r.tokens[r.next-1]
	n.At = r.tokens[first].At
	return branch{TreeNode: n, part: api.Stretch{From: n.At, To: last.At + len(last.Text)}, kids: kids}
}

// list reads one or more branches, with a text between two.
func (r *reader) list(between string, one func() branch) []branch {
	out := []branch{one()}
	for r.skip(between) {
		out = append(out, one())
	}
	return out
}

// bracketed reads a list in brackets that may be empty.
func (r *reader) bracketed(one func() branch) []branch {
	r.read("(")
	if r.skip(")") {
		return nil
	}
	out := r.list(",", one)
	r.read(")")
	return out
}
