package lex

import "strings"

// kind tells of a byte whether it is of a kind.
type kind func(c byte) bool

func between(low, high byte) kind {
	return func(c byte) bool { return low <= c && c <= high }
}

func among(bytes string) kind {
	return func(c byte) bool { return strings.IndexByte(bytes, c) >= 0 }
}

func except(k kind) kind {
	return func(c byte) bool { return !k(c) }
}

func either(kinds ...kind) kind {
	return func(c byte) bool {
		for _, k := range kinds {
			if k(c) {
				return true
			}
		}
		return false
	}
}

// kinds are the kinds of bytes that a text is cut by.
type kinds struct {
	blank, remark, end, inLine, letter, digit, inName, mark kind
}

func kindsOfBytes() kinds {
	letter, digit, end := between('a', 'z'), between('0', '9'), among("\n")
	return kinds{
		blank:  among(" \t"),
		remark: among("#"),
		end:    end,
		inLine: except(end),
		letter: letter,
		digit:  digit,
		inName: either(letter, digit, among("-")),
		mark:   among(",:<>=()"),
	}
}

// length is how many bytes from the first one on are of the kind.
func length(text string, k kind) int {
	n := 0
	for n < len(text) && k(text[n]) {
		n++
	}
	return n
}
