package part

import (
	"iter"
	"slices"

	"provost/api"
)

// Next is the pattern behind a.
func Next(a []int) ([]int, bool) {
	if !Legal(a) {
		return nil, false
	}
	next := slices.Clone(a)
	if !raise(next) {
		return nil, false
	}
	return next, true
}

// Prev is the pattern ahead of a.
func Prev(a []int) ([]int, bool) {
	if !Legal(a) {
		return nil, false
	}
	prev := slices.Clone(a)
	if !lower(prev) {
		return nil, false
	}
	return prev, true
}

// All tells all patterns of n.
func All(n int) iter.Seq[[]int] {
	return func(yield func([]int) bool) {
		row, err := First(n)
		for more := err == api.OK; more; more = raise(row) {
			// The body may write into what it is told, and the row is still needed.
			if !yield(slices.Clone(row)) {
				return
			}
		}
	}
}

// raise makes a pattern the one behind it, if there is one.
func raise(a []int) bool {
	for i := len(a) - 1; i >= 0; i-- {
		if a[i] < blocksIn(a[:i]) {
			a[i]++
			clear(a[i+1:])
			return true
		}
	}
	return false
}

// lower makes a pattern the one ahead of it, if there is one.
func lower(a []int) bool {
	for i := len(a) - 1; i >= 0; i-- {
		if a[i] > 0 {
			a[i]--
			spread(a[i+1:], blocksIn(a[:i+1]))
			return true
		}
	}
	return false
}
