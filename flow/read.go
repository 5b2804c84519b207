package flow

import "provost/api"

// read makes a flow of a text's tokens. Whoever finds something wrong on the way
// gives up: nothing between there and here has to hand the fault on.
func read(tokens []api.Token) (f api.Flow, fault api.Fault) {
	defer func() {
		if wrong := recover(); wrong != nil {
			f, fault = api.Flow{}, wrong.(api.Fault)
		}
	}()
	r := &reader{rest: tokens, next: firstLine()}
	r.all()
	// A LIST may name steps that come only further down, so all of them are laid first.
	b := &builder{}
	b.laySteps(r.lines)
	b.layLists(r.lines)
	b.lookAtWhole(r.head) // the line at which the reader is now is the last one
	b.flow.Name = r.name
	return b.flow, api.Fault{}
}

// giveUp ends the reading, for what is wrong at that token.
func giveUp(why api.Errno, at api.Token) {
	panic(api.Fault{Why: why, Line: at.Line, Col: at.Col})
}

// line is what stands in a line between the first and the last one: that of a step,
// whose kind is 0, or that of a rule.
type line struct {
	name, duty api.Token // of a step
	head       api.Token // of a rule: the line's first token
	kind, k    int
	list       []api.Token
}

// reader goes through the tokens of a text, line by line.
type reader struct {
	rest  []api.Token
	next  readers   // of the line that comes next
	head  api.Token // the first token of the line at which it is
	name  string
	lines []line
}

// readers are those of the lines that may come next, by the words that begin them.
type readers map[string]func(*reader)

func firstLine() readers {
	return readers{"flow": (*reader).flow}
}

func laterLine() readers {
	return readers{
		"step":  (*reader).step,
		"apart": (*reader).apart,
		"same":  (*reader).same,
		"most":  (*reader).most,
		"few":   (*reader).few,
		"many":  (*reader).many,
		"end":   (*reader).end,
	}
}

// all reads every line. The tokens that Scan tells end with a Line, so that within a
// line there is always one that comes next.
func (r *reader) all() {
	var last api.Token
	for len(r.rest) > 0 {
		r.head = r.rest[0]
		// Only a Word has the text of one.
		read, may := r.next[r.head.Text]
		if !may {
			giveUp(api.ErrForm, r.head)
		}
		r.rest = r.rest[1:]
		read(r)
		last = r.take(api.Line)
	}
	if r.next != nil {
		giveUp(api.ErrForm, last)
	}
}

// take goes past the next token, which must be of that kind.
func (r *reader) take(kind int) api.Token {
	t := r.rest[0]
	if t.Kind != kind {
		giveUp(api.ErrForm, t)
	}
	r.rest = r.rest[1:]
	return t
}

// pass goes past the next token, if it has that text.
func (r *reader) pass(text string) bool {
	if r.rest[0].Text != text {
		return false
	}
	r.rest = r.rest[1:]
	return true
}

func (r *reader) list() []api.Token {
	l := []api.Token{r.take(api.Word)}
	for r.pass(",") {
		l = append(l, r.take(api.Word))
	}
	return l
}

func (r *reader) flow() {
	r.name = r.take(api.Word).Text
	r.next = laterLine()
}

func (r *reader) end() { r.next = nil }

func (r *reader) step() {
	l := line{name: r.take(api.Word)}
	l.duty = l.name
	if r.pass("needs") {
		l.duty = r.take(api.Word)
	}
	if r.pass("after") {
		l.list = r.list()
	}
	r.lines = append(r.lines, l)
}

func (r *reader) apart() { r.bare(api.Apart) }
func (r *reader) same()  { r.bare(api.Same) }
func (r *reader) most()  { r.counting(api.Most) }
func (r *reader) few()   { r.counting(api.Few) }
func (r *reader) many()  { r.counting(api.Many) }

// bare reads a rule that has no number.
func (r *reader) bare(kind int) {
	r.lines = append(r.lines, line{head: r.head, kind: kind, list: r.list()})
}

// counting reads a rule that has one.
func (r *reader) counting(kind int) {
	l := line{head: r.head, kind: kind, k: r.take(api.Number).Number}
	if !r.pass("of") {
		giveUp(api.ErrForm, r.rest[0])
	}
	l.list = r.list()
	r.lines = append(r.lines, l)
}
