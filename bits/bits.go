// Package bits is layer 1: see shared/doc/01-bits.md.
package bits

import (
	"cmp"
	machine "math/bits"

	"provost/api"
)

// Word is what a set's bits lie in.
type Word interface {
	~uint8 | ~uint16 | ~uint32 | ~uint64
}

// Set is a set of small numbers; its zero value is the empty set.
type Set[W Word] struct {
	word W
}

// Of is the set of a word, whatever s is.
func (s Set[W]) Of(w W) Set[W] { return Set[W]{word: w} }

// Word is the set's word.
func (s Set[W]) Word() W { return s.word }

// Width is how many numbers there can be.
func (s Set[W]) Width() int { return machine.Len64(uint64(^W(0))) }

// Has: is the number in it?
func (s Set[W]) Has(i int) bool { return s.fits(i) && s.Meets(s.only(i)) }

// With is the set and the number.
func (s Set[W]) With(i int) (Set[W], api.Errno) {
	if !s.fits(i) {
		return Set[W]{}, api.ErrArg
	}
	return s.Or(s.only(i)), api.OK
}

// Without is the set less the number.
func (s Set[W]) Without(i int) Set[W] {
	if !s.fits(i) {
		return s
	}
	return s.Minus(s.only(i))
}

// And is what is in both.
func (s Set[W]) And(t Set[W]) Set[W] { return s.Of(s.word & t.word) }

// Or is what is in one of them or both.
func (s Set[W]) Or(t Set[W]) Set[W] { return s.Of(s.word | t.word) }

// Minus is what is in s alone.
func (s Set[W]) Minus(t Set[W]) Set[W] { return s.Of(s.word &^ t.word) }

// Xor is what is in just one of them.
func (s Set[W]) Xor(t Set[W]) Set[W] { return s.Of(s.word ^ t.word) }

// Not is what is not in it.
func (s Set[W]) Not() Set[W] { return s.Of(^s.word) }

// Sub: is all of s in t?
func (s Set[W]) Sub(t Set[W]) bool { return s.word&^t.word == 0 }

// Meets: is something in both?
func (s Set[W]) Meets(t Set[W]) bool { return s.word&t.word != 0 }

// Cmp compares by the words.
func (s Set[W]) Cmp(t Set[W]) int { return cmp.Compare(s.word, t.word) }

// fits: can the number be in a set of this width?
func (s Set[W]) fits(i int) bool { return 0 <= i && i < s.Width() }

// only is the set of a number that fits, whatever s is.
func (s Set[W]) only(i int) Set[W] { return s.Of(W(1) << i) }
