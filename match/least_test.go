package match_test

import (
	"slices"
	"testing"

	"provost/match"
)

// first is the first full matching of rows that have one, found row by row: the
// least place with which the rows behind it, less the places told, fit.
func (m model) first() []int {
	var list []int
	rest := slices.Clone(m)
	for row := range m {
		for u := range 64 {
			others := without(rest[row+1:], u)
			if rest[row]>>u&1 == 1 && others.fits() {
				list = append(list, u)
				copy(rest[row+1:], others)
				break
			}
		}
	}
	return list
}

// without are the rows less a place.
func without(m model, u int) model {
	var l model
	for _, w := range m {
		l = append(l, w&^(1<<u))
	}
	return l
}

// fits: is there a full matching? There is, by Hall's theorem, if no set of rows
// may have too few places.
func (m model) fits() bool { return len(m.short()) == 0 }

func TestLeastOfManyRows(t *testing.T) {
	some := 0
	for _, m := range long() {
		var want []int
		if m.fits() {
			want = m.first()
			some++
		}
		if got, is := match.Least(m); !slices.Equal(got, want) || is != m.fits() {
			t.Fatalf("%x: Least: %v, %v; not %v", m, got, is, want)
		}
	}
	if some == 0 || some == len(long()) {
		t.Error("lists that have a full matching:", some)
	}
}

// Rows in which the first that has the choice must leave it to those behind it.
func TestLeastGivesWay(t *testing.T) {
	stairs := make(model, 12)
	turned := make(model, 12)
	for row := range stairs {
		stairs[row] = below(12 - row)
		turned[row] = below(row+1) << 52
	}
	for _, x := range []struct {
		m    model
		want []int
	}{
		{stairs, p{11, 10, 9, 8, 7, 6, 5, 4, 3, 2, 1, 0}},
		{turned, p{52, 53, 54, 55, 56, 57, 58, 59, 60, 61, 62, 63}},
		{alike(12, ^uint64(0)), p{0, 1, 2, 3, 4, 5, 6, 7, 8, 9, 10, 11}},
		{append(alike(11, ^uint64(0)), 1), p{1, 2, 3, 4, 5, 6, 7, 8, 9, 10, 11, 0}},
		{append(alike(10, ^uint64(0)), word(0, 5), word(0, 5)), p{1, 2, 3, 4, 6, 7, 8, 9, 10, 11, 0, 5}},
		// A ring: the first row's place makes all others' places.
		{rows(p{0, 1}, p{1, 2}, p{2, 3}, p{3, 4}, p{4, 0}), p{0, 1, 2, 3, 4}},
		{rows(p{0, 1}, p{0}, p{1, 2}, p{2, 3}, p{3, 4}), p{1, 0, 2, 3, 4}},
		// Row 1 takes place 4, though place 3 is less: row 3 has no other.
		{rows(p{2, 63}, p{3, 4}, p{2}, p{3}), p{63, 4, 2, 3}},
	} {
		if got, is := match.Least(x.m); !slices.Equal(got, x.want) || !is {
			t.Errorf("%x: Least: %v, %v; not %v", x.m, got, is, x.want)
		}
	}
}

// Rows that find no place do not keep those behind them from theirs.
func TestSizeOfManyRows(t *testing.T) {
	for _, x := range []struct {
		m    model
		want int
	}{
		{alike(12, 0), 0},
		{alike(12, 1<<63), 1},
		{alike(12, below(11)), 11},
		{alike(12, below(12)), 12},
		{append(alike(6, 1), alike(6, below(6))...), 6},
		{append(alike(6, 0), alike(6, ^uint64(0))...), 6},
		{append(alike(5, word(0, 63)), alike(7, word(1, 2, 3))...), 5},
		{append(alike(9, below(3)), below(4), below(5), below(6)), 6},
	} {
		if got := match.Size(x.m); got != x.want {
			t.Errorf("%x: Size: %d, not %d", x.m, got, x.want)
		}
	}
}

// The greatest number of rows that have places is as many as they are less what the
// worst set of rows has too few.
func TestSizeIsWhatTheWorstSetLeaves(t *testing.T) {
	for _, m := range long() {
		want := len(m)
		for _, l := range m.chosen() {
			want = min(want, len(m)-len(l)+m.picked(l).reach())
		}
		if got := match.Size(m); got != want {
			t.Fatalf("%x: Size: %d, not %d", m, got, want)
		}
	}
}
