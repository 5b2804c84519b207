package match_test

import (
	"slices"
	"testing"

	"provost/match"
)

type p = []int

// The chapter's runs, and its first example.
func TestRuns(t *testing.T) {
	for _, x := range []struct {
		rows  []uint64
		least []int
		is    bool
		size  int
		short []int
		free  []uint64
		count uint64
	}{
		{rows(p{0, 1}, p{0}), p{1, 0}, true, 2, nil, []uint64{2, 1}, 1},
		{rows(p{0, 1}, p{0, 1}), p{0, 1}, true, 2, nil, []uint64{3, 3}, 2},
		{rows(p{0, 1}, p{0, 1}, p{0, 1, 2}, p{0, 1}), nil, false, 3, p{0, 1, 3}, []uint64{0, 0, 0, 0}, 0},
		{rows(p{5}, p{5}, p{}), nil, false, 1, p{2}, []uint64{0, 0, 0}, 0},
		{rows(), p{}, true, 0, nil, nil, 1},
		{[]uint64{}, p{}, true, 0, nil, nil, 1},
		{alike(13, 1), nil, false, 0, nil, make([]uint64, 13), 0},
		{rows(p{63}, p{0}), p{63, 0}, true, 2, nil, []uint64{1 << 63, 1}, 1},
	} {
		if least, is := match.Least(x.rows); !slices.Equal(least, x.least) || is != x.is {
			t.Errorf("%x: Least: %v, %v", x.rows, least, is)
		}
		if size := match.Size(x.rows); size != x.size {
			t.Errorf("%x: Size: %d", x.rows, size)
		}
		if short := match.Short(x.rows); !slices.Equal(short, x.short) {
			t.Errorf("%x: Short: %v", x.rows, short)
		}
		for _, most := range []uint64{9, 1, 0} {
			if count := match.Count(x.rows, most); count != min(x.count, most) {
				t.Errorf("%x: Count up to %d: %d", x.rows, most, count)
			}
		}
		for i, want := range x.free {
			if free := match.Free(x.rows, i); free != want {
				t.Errorf("%x: Free(%d): %x", x.rows, i, free)
			}
		}
		// No row has the number -1 (the second example), nor one behind the last.
		for _, i := range []int{-1, len(x.rows)} {
			if free := match.Free(x.rows, i); free != 0 {
				t.Errorf("%x: Free(%d): %x", x.rows, i, free)
			}
		}
	}
}

// One row too many, and nothing is worked out, whatever there would be to tell.
func TestThirteenRows(t *testing.T) {
	for _, w := range []uint64{0, 1, below(12), below(13), ^uint64(0)} {
		for _, n := range []int{13, 14, 64, 65, 1000} {
			m := alike(n, w)
			if least, is := match.Least(m); len(least) > 0 || is {
				t.Errorf("%d rows: Least: %v, %v", n, least, is)
			}
			if size, short := match.Size(m), match.Short(m); size != 0 || len(short) > 0 {
				t.Errorf("%d rows: Size %d, Short %v", n, size, short)
			}
			for _, i := range []int{-1, 0, 11, 12, n - 1, n} {
				if free := match.Free(m, i); free != 0 {
					t.Errorf("%d rows: Free(%d): %x", n, i, free)
				}
			}
			if count := match.Count(m, 9); count != 0 {
				t.Errorf("%d rows: Count: %d", n, count)
			}
		}
	}
}

// Small lists of rows, all of them.
func TestEveryFewRows(t *testing.T) {
	for n := range 4 {
		for _, m := range every(n, spread(4)) {
			check(t, m)
		}
	}
	for _, m := range every(4, spread(3)) {
		check(t, m)
	}
	for _, m := range every(5, spread(2)) {
		check(t, m)
	}
}

func TestDrawnRows(t *testing.T) {
	for _, m := range drawn() {
		check(t, m)
	}
}
