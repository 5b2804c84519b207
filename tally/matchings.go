package tally

import (
	"iter"
	"math/bits"
	"slices"

	"provost/match"
)

// matchings tells the full matchings of rows, in their order. A list is the body's
// for its turn alone.
func matchings(rows []uint64) iter.Seq[[]int] {
	return func(yield func([]int) bool) {
		settle(rows, make([]int, 0, len(rows)), yield)
	}
}

// settle tells the full matchings that begin with those places, in their order,
// until it is told to end. The rows of these places have no other ones any more:
// so no beginning is gone into behind which there is no full matching.
func settle(rows []uint64, places []int, tell func([]int) bool) bool {
	row := len(places)
	if row == len(rows) {
		return tell(places)
	}
	for left := match.Free(rows, row); left != 0; left &= left - 1 {
		place := bits.TrailingZeros64(left)
		narrowed := slices.Clone(rows)
		narrowed[row] = 1 << place
		if !settle(narrowed, append(places, place), tell) {
			return false
		}
	}
	return true
}
