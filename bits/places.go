package bits

import machine "math/bits"

// Len is how many numbers are in it.
func (s Set[W]) Len() int { return machine.OnesCount64(uint64(s.word)) }

// Low is the least.
func (s Set[W]) Low() int {
	if s.word == 0 {
		return -1
	}
	return machine.TrailingZeros64(uint64(s.word))
}

// High is the greatest.
func (s Set[W]) High() int { return machine.Len64(uint64(s.word)) - 1 }

// Next is the least that is not below i.
func (s Set[W]) Next(i int) int { return s.Minus(s.below(i)).Low() }

// Rank is how many are below i.
func (s Set[W]) Rank(i int) int { return s.below(i).Len() }

// Nth is the one with k below it.
func (s Set[W]) Nth(k int) int {
	for i := range s.All() {
		if s.Rank(i) == k {
			return i
		}
	}
	return -1
}

// Places are the numbers, rising.
func (s Set[W]) Places() []int {
	places := make([]int, 0, s.Len())
	for i := range s.All() {
		places = append(places, i)
	}
	return places
}

// below is what of s is below i, which may be any int.
func (s Set[W]) below(i int) Set[W] {
	if i < 0 {
		return Set[W]{}
	}
	if i >= s.Width() {
		return s
	}
	return s.Of(s.word & (W(1)<<i - 1))
}
