package part

import "provost/api"

// ends has for a number of places that are left, and a number of blocks that
// are there already, in how many ways a pattern can end.
type ends [api.MaxBell + 1][api.MaxBell + 1]uint64

// countEnds goes only as far as both numbers are MaxBell together: no pattern
// asks for more, and what lies beyond does not fit into a word.
func countEnds() *ends {
	var e ends
	for left := range e {
		for blocks := range len(e) - left {
			if left == 0 {
				e[left][blocks] = 1
				continue
			}
			e[left][blocks] = uint64(blocks)*e[left-1][blocks] + e[left-1][blocks+1]
		}
	}
	return &e
}

// Bell is how many patterns of n there are.
func Bell(n int) (uint64, api.Errno) {
	if !fits(n) {
		return 0, api.ErrArg
	}
	return countEnds()[n][0], api.OK
}

// Rank is how many patterns stand ahead of a.
func Rank(a []int) (uint64, api.Errno) {
	if !Legal(a) {
		return 0, api.ErrForm
	}
	e := countEnds()
	rank, blocks := uint64(0), 0
	for i, b := range a {
		// All smaller numbers are blocks that are there: they have as many ends each.
		rank += uint64(b) * e[len(a)-1-i][blocks]
		blocks = max(blocks, b+1)
	}
	return rank, api.OK
}

// At is the pattern of n with that rank.
func At(n int, rank uint64) ([]int, api.Errno) {
	if bell, err := Bell(n); err != api.OK || rank >= bell {
		return nil, api.ErrArg
	}
	e := countEnds()
	a := make([]int, n)
	blocks := 0
	for i := range a {
		each := e[n-1-i][blocks]
		b := min(rank/each, uint64(blocks))
		rank -= b * each
		a[i] = int(b)
		blocks = max(blocks, a[i]+1)
	}
	return a, api.OK
}
