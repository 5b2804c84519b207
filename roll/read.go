package roll

import (
	"strings"

	"provost/api"
)

// reader goes through the tokens of a text, line by line. Where it can't go on, it
// stays at the token with which no text does.
type reader struct {
	rest  []api.Token
	lines []line
}

// read makes lines of a text's tokens, the first and the last line among them.
func read(tokens []api.Token) ([]line, api.Fault) {
	r := &reader{rest: tokens}
	if r.all() {
		return r.lines, api.Fault{}
	}
	var at api.Token
	switch {
	case len(r.rest) > 0:
		at = r.rest[0]
	case len(tokens) > 0:
		at = tokens[len(tokens)-1]
	}
	return nil, faultAt(api.ErrForm, at)
}

// all goes past every line: are they a text?
func (r *reader) all() bool {
	if !r.line(firstForms()) {
		return false
	}
	later := laterForms()
	for r.line(later) {
		if r.lines[len(r.lines)-1].head.Text == lastWord {
			return len(r.rest) == 0
		}
	}
	return false
}

// line goes past the next line: is there one, and has it one of these forms?
func (r *reader) line(may forms) bool {
	if len(r.rest) == 0 {
		return false
	}
	// Only a Word has the text of one.
	f, is := may[r.rest[0].Text]
	if !is {
		return false
	}
	l := line{head: r.rest[0], call: f.call}
	r.rest = r.rest[1:]
	// The tokens that Scan tells end with a Line, which no piece goes past.
	for _, piece := range strings.Fields(f.pieces) {
		if !r.piece(piece, &l) {
			return false
		}
	}
	if r.rest[0].Kind != api.Line {
		return false
	}
	r.rest = r.rest[1:]
	r.lines = append(r.lines, l)
	return true
}

// piece goes past the next token of a line: is it what the line's form says?
func (r *reader) piece(piece string, l *line) bool {
	t := r.rest[0]
	switch {
	case piece == aName && t.Kind == api.Word:
		l.names = append(l.names, t.Text)
	case piece == aNumber && t.Kind == api.Number:
		l.number = t
	case t.Text != piece:
		return false
	}
	r.rest = r.rest[1:]
	return true
}
