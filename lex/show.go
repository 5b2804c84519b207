package lex

import "provost/api"

// asScanned: might Scan have told these tokens, but for their places?
func asScanned(l []api.Token) bool {
	k := kindsOfBytes()
	for i, t := range l {
		if t.Kind == api.Line && ended(l[:i]) {
			return false
		}
		if !k.whole(t) {
			return false
		}
	}
	return ended(l)
}

// whole: is it what is cut off its own text, with nothing left behind it?
func (k kinds) whole(t api.Token) bool {
	if t.Kind == api.Line {
		return t.Text == "" && t.Number == 0
	}
	if t.Text == "" {
		return false
	}
	c, why := k.cut(t.Text)
	return why == api.OK && c.Kind == t.Kind && c.Text == t.Text && c.Number == t.Number
}
