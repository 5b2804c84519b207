package lex

import "provost/api"

// mostDigits are the digits of MaxNumber: no number of so many is above it.
const mostDigits = 9

// scanner goes through a text. It stands at a byte of the line that begins at start.
type scanner struct {
	kinds
	text            string
	at, start, line int
	tokens          []api.Token
}

// col is the column of the byte at which it stands.
func (s *scanner) col() int { return s.at - s.start + 1 }

// step goes past what stands at the byte, or stays there and says what is wrong.
func (s *scanner) step() api.Errno {
	rest := s.text[s.at:]
	switch c := rest[0]; {
	case s.blank(c):
		s.at++
	case s.remark(c):
		s.at += length(rest, s.inLine)
	case s.end(c):
		s.endLine()
		s.at++
		s.start = s.at
		s.line++
	default:
		t, why := s.cut(rest)
		if why != api.OK {
			return why
		}
		s.keep(t)
		s.at += len(t.Text)
	}
	return api.OK
}

// keep lays a token down, at the place where the scanner stands.
func (s *scanner) keep(t api.Token) {
	t.Line, t.Col = s.line, s.col()
	s.tokens = append(s.tokens, t)
}

// endLine ends the line where it has tokens.
func (s *scanner) endLine() {
	if !ended(s.tokens) {
		s.keep(api.Token{Kind: api.Line})
	}
}

// ended: is there no token on a line that has not been ended?
func ended(l []api.Token) bool {
	return len(l) == 0 || l[len(l)-1].Kind == api.Line
}

// cut is the token with which a text begins, without its place.
func (k kinds) cut(text string) (api.Token, api.Errno) {
	switch c := text[0]; {
	case k.letter(c):
		return k.word(text)
	case k.digit(c):
		return k.number(text)
	case k.mark(c):
		return api.Token{Kind: api.Mark, Text: text[:1]}, api.OK
	}
	return api.Token{}, api.ErrForm
}

func (k kinds) word(text string) (api.Token, api.Errno) {
	n := length(text, k.inName)
	if n > api.MaxName {
		return api.Token{}, api.ErrName
	}
	return api.Token{Kind: api.Word, Text: text[:n]}, api.OK
}

func (k kinds) number(text string) (api.Token, api.Errno) {
	n := length(text, k.digit)
	if n > mostDigits || n > 1 && text[0] == '0' {
		return api.Token{}, api.ErrForm
	}
	if n < len(text) && k.inName(text[n]) {
		return api.Token{}, api.ErrForm
	}
	return api.Token{Kind: api.Number, Text: text[:n], Number: value(text[:n])}, api.OK
}

func value(digits string) int {
	v := 0
	for i := range len(digits) {
		v = v*10 + int(digits[i]-'0')
	}
	return v
}
