package parse

import "dripstone/api"

// flaw tells that the grammar does not go on with the next token.
func (r *reader) flaw() {
	r.flaws = append(r.flaws, api.Flaw{At: r.token().At, E: api.ErrForm})
}

// beginsItem says whether a token is an item token.
func (r *reader) beginsItem(i int) bool {
	t := r.tokens[i]
	switch t.Text {
	case "lattice", "use", "task":
		return t.At == 0 || r.text[t.At-1] == '\n'
	}
	return false
}

// itemToken returns the number of the first item token from one on, or that behind the last token.
func (r *reader) itemToken(i int) int {
	for i < len(r.tokens) && !r.beginsItem(i) {
		i++
	}
	return i
}

// resume goes to where reading goes on behind a statement, of which the next token is the flaw, and returns how it goes on.
func (r *reader) resume(first int) course {
	count := 0
	for _, t := range r.tokens[first:r.next] {
		count += brace(t)
	}
	for ; r.next < len(r.tokens); r.next++ {
		t := r.tokens[r.next]
		if r.beginsItem(r.next) {
			return lost
		}
		if count == 0 && t.Text == "}" {
			return going
		}
		count += brace(t)
		if count == 0 && (t.Text == ";" || t.Text == "}") {
			r.next++
			return going
		}
	}
	return stuck
}

// brace returns by how much a token changes how many braces are open.
func brace(t api.Lexeme) int {
	switch t.Text {
	case "{":
		return 1
	case "}":
		return -1
	}
	return 0
}
