package bits

import (
	"iter"
	machine "math/bits"
)

// All tells the numbers, rising.
func (s Set[W]) All() iter.Seq[int] {
	return func(yield func(int) bool) {
		for i := s.Low(); i >= 0; i = s.Next(i + 1) {
			if !yield(i) {
				return
			}
		}
	}
}

// Down tells the numbers, falling.
func (s Set[W]) Down() iter.Seq[int] {
	return func(yield func(int) bool) {
		for i := range s.mirror().All() {
			if !yield(s.Width() - 1 - i) {
				return
			}
		}
	}
}

// Subsets tells all subsets.
func (s Set[W]) Subsets() iter.Seq[Set[W]] {
	return func(yield func(Set[W]) bool) {
		if s.word == 0 {
			yield(s)
			return
		}
		// The lowest number weighs less than all others: a subset of them stands
		// right ahead of itself with that number.
		low := s.only(s.Low())
		for t := range s.Minus(low).Subsets() {
			if !yield(t) || !yield(t.Or(low)) {
				return
			}
		}
	}
}

// Choose tells the subsets of k numbers.
func (s Set[W]) Choose(k int) iter.Seq[Set[W]] {
	return func(yield func(Set[W]) bool) {
		if k < 0 || k > s.Len() {
			return
		}
		if k == 0 {
			yield(Set[W]{})
			return
		}
		// A chosen set's lowest number decides last: it changes while the others stay.
		for t := range s.Without(s.Low()).Choose(k - 1) {
			for low := range s.ahead(t).All() {
				if !yield(t.Or(s.only(low))) {
					return
				}
			}
		}
	}
}

// ahead is what of s is below all numbers of t.
func (s Set[W]) ahead(t Set[W]) Set[W] {
	if t.word == 0 {
		return s
	}
	return s.below(t.Low())
}

// mirror is the set with Width-1-i for each number i.
func (s Set[W]) mirror() Set[W] {
	return s.Of(W(machine.Reverse64(uint64(s.word)) >> (64 - s.Width())))
}
