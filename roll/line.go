package roll

import (
	"provost/api"
	"provost/org"
)

// Pieces of a form that stand for any token of a kind. No token has such a text.
const (
	aName   = "NAME"
	aNumber = "NUMBER"
)

// lastWord begins the line that ends a text.
const lastWord = "end"

// form is how a line looks behind the word that begins it, a blank between two
// pieces, and the call that it stands for.
type form struct {
	pieces string
	call   func(line, *org.Org) api.Errno
}

// forms are those of the lines that may come, by the words that begin them.
type forms map[string]form

func firstForms() forms {
	return forms{"org": {"NUMBER", line.clock}}
}

func laterForms() forms {
	return forms{
		"user":   {"NAME", line.user},
		"role":   {"NAME", line.role},
		"join":   {"NAME of NAME", line.join},
		"over":   {"NAME , NAME", line.over},
		"grant":  {"NAME , NAME", line.grant},
		"bar":    {"NAME , NAME", line.bar},
		"lend":   {"NAME , NAME until NUMBER", line.lend},
		"rest":   {"NAME", line.rest},
		lastWord: {"", line.end},
	}
}

// line is what stands in a line of a text: its first token, and as many names as
// its form has, and the number.
type line struct {
	head   api.Token
	names  []string
	number api.Token
	call   func(line, *org.Org) api.Errno
}

// clock moves the clock on, which begins at 1.
func (l line) clock(o *org.Org) api.Errno {
	if l.number.Number > 1 {
		return o.Tick(l.number.Number - 1)
	}
	return api.OK
}

func (l line) user(o *org.Org) api.Errno {
	_, why := o.User(l.names[0])
	return why
}

func (l line) role(o *org.Org) api.Errno {
	_, why := o.Role(l.names[0])
	return why
}

func (l line) join(o *org.Org) api.Errno  { return o.Join(l.names[0], l.names[1]) }
func (l line) over(o *org.Org) api.Errno  { return o.Over(l.names[0], l.names[1]) }
func (l line) grant(o *org.Org) api.Errno { return o.Grant(l.names[0], l.names[1]) }
func (l line) bar(o *org.Org) api.Errno   { return o.Bar(l.names[0], l.names[1]) }
func (l line) lend(o *org.Org) api.Errno  { return o.Lend(l.names[0], l.names[1], l.number.Number) }
func (l line) rest(o *org.Org) api.Errno  { return o.Rest(l.names[0]) }
func (l line) end(*org.Org) api.Errno     { return api.OK }
