package match

import (
	"slices"

	"provost/api"
)

// Short is a least set of rows with too few places.
func Short(rows []uint64) []int {
	if _, is := full(rows); is || !few(rows) {
		return nil
	}
	for n := 1; n <= len(rows); n++ {
		if short := firstShort(rows, n); short != nil {
			return short
		}
	}
	return nil
}

// firstShort is the first list of n rows that have too few places, if there is one.
// Choose does not tell sets in the order of their lists, so all are looked at.
func firstShort(rows []uint64, n int) []int {
	var first []int
	for s := range of(1<<len(rows) - 1).Choose(n) {
		if union(rows, s).Len() >= n {
			continue
		}
		if list := s.Places(); first == nil || slices.Compare(list, first) < 0 {
			first = list
		}
	}
	return first
}

// union is what the rows of a set may have all together.
func union(rows []uint64, s places) places {
	var all places
	for row := range s.All() {
		all = all.Or(of(rows[row]))
	}
	return all
}

// Count is how many full matchings there are, at most most.
func Count(rows []uint64, most uint64) uint64 {
	if _, is := full(rows); !is {
		return 0
	}
	c := counts{most: min(most, api.MaxCount)}
	c.ways[0] = min(1, c.most)
	for u := range api.MaxUsers {
		c.offer(askers(rows, u), 1<<len(rows)-1)
	}
	return c.ways[1<<len(rows)-1]
}

// counts has for each set of rows in how many ways just these have places of their
// own among those offered so far, at most most. To go place by place takes as long
// whatever there is to count: no matching is gone into.
type counts struct {
	most uint64
	ways [1 << api.MaxSteps]uint64
}

// offer offers a place to those that may have it. Sets are gone through falling,
// so that it is not offered again to a set in which one row has it already.
func (c *counts) offer(who places, all int) {
	if who.Len() == 0 {
		return
	}
	for s := all; s > 0; s-- {
		for takers := who.And(of(uint64(s))); takers.Len() > 0; takers = takers.Without(takers.Low()) {
			c.ways[s] = min(c.ways[s]+c.ways[s&^(1<<takers.Low())], c.most)
		}
	}
}

// askers are the rows that may have a place.
func askers(rows []uint64, u int) places {
	var found places
	for row, w := range rows {
		if of(w).Has(u) {
			found = found.Or(only(row))
		}
	}
	return found
}
