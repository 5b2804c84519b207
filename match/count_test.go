package match_test

import (
	"math"
	"slices"
	"testing"

	"provost/match"
)

// apart are n rows, row i with so many places as the list says, none of them another row's.
func apart(lengths ...int) model {
	var m model
	from := 0
	for _, n := range lengths {
		m = append(m, below(n)<<from)
		from += n
	}
	return m
}

// butOwn are n rows over n places, row i with all but the place i and, if next, the one behind it.
func butOwn(n int, next bool) model {
	m := alike(n, below(n))
	for i := range m {
		m[i] &^= 1 << i
		if next {
			m[i] &^= 1 << ((i + 1) % n)
		}
	}
	return m
}

func TestCountOfManyRows(t *testing.T) {
	for _, x := range []struct {
		m    model
		want uint64
	}{
		{apart(4, 4, 4, 4, 4, 4, 4, 4), 65536},
		{apart(4, 4, 4, 4, 4, 4, 4, 3), 49152},
		{apart(2, 2, 2, 2, 2, 2, 2, 2, 2, 2, 2, 2), 4096},
		{apart(3, 3, 3, 3, 3, 3, 3, 3, 3, 2), 39366},
		{apart(64), 64},
		{apart(1, 63), 63},
		{apart(1, 1, 1, 1, 1, 1, 1, 1, 1, 1, 1, 1), 1},
		{alike(8, below(8)), 40320},
		{alike(2, ^uint64(0)), 64 * 63},
		{alike(3, below(41)<<23), 41 * 40 * 39},
		// Derangements, and ways to seat couples round a table.
		{butOwn(8, false), 14833},
		{butOwn(8, true), 4738},
		{butOwn(9, true), 43387},
		{alike(12, below(11)), 0},
		{append(alike(11, ^uint64(0)), 0), 0},
	} {
		for _, most := range []uint64{0, 1, 2, x.want / 2, x.want, x.want + 1, 65535, 65536, 65537, math.MaxUint64} {
			if got := match.Count(x.m, most); got != min(x.want, most) {
				t.Errorf("%x: Count up to %d: %d, not %d", x.m, most, got, min(x.want, most))
			}
		}
	}
}

// Counts that go beyond a word are told as the most that was asked for.
func TestCountGoesUpToMost(t *testing.T) {
	for _, m := range []model{
		alike(12, ^uint64(0)), alike(12, below(12)), alike(9, below(9)), apart(4, 4, 4, 4, 4, 4, 4, 5), apart(5, 5, 5, 5, 5, 5, 5, 5, 5, 5, 5, 5), butOwn(12, true),
	} {
		for _, most := range []uint64{0, 1, 2, 999, 65535, 65536} {
			if got := match.Count(m, most); got != most {
				t.Errorf("%x: Count up to %d: %d", m, most, got)
			}
		}
		for _, most := range []uint64{65537, 1 << 32, 1 << 63, math.MaxUint64} {
			if got := match.Count(m, most); got != 65536 {
				t.Errorf("%x: Count up to %d: %d, not 65536", m, most, got)
			}
		}
	}
}

// The first row's places part the full matchings.
func TestCountIsTheSumOfTheFirstRowsPlaces(t *testing.T) {
	for _, m := range long() {
		var sum uint64
		for u := range 64 {
			if m[0]>>u&1 == 1 {
				sum += match.Count(without(m[1:], u), 65536)
			}
		}
		turned := slices.Clone(m)
		slices.Reverse(turned)
		if got := match.Count(m, 65536); got != min(sum, 65536) || match.Count(turned, 65536) != got {
			t.Fatalf("%x: Count: %d; turned round %d; by the first row %d", m, got, match.Count(turned, 65536), sum)
		}
	}
}
