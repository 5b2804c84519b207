package part_test

import (
	"math"
	"math/big"
	"slices"
	"strconv"
	"testing"

	"provost/api"
	"provost/part"
)

// bells are Bell's numbers by Aitken's triangle, in numbers without an end.
func bells(n int) []*big.Int {
	row := []*big.Int{big.NewInt(1)}
	l := []*big.Int{big.NewInt(1)}
	for range n {
		next := []*big.Int{row[len(row)-1]}
		for _, x := range row {
			next = append(next, new(big.Int).Add(next[len(next)-1], x))
		}
		row = next
		l = append(l, row[0])
	}
	return l
}

// P2.2

func TestBell(t *testing.T) {
	for n, want := range bells(25) {
		if got, err := part.Bell(n); err != api.OK || new(big.Int).SetUint64(got).Cmp(want) != 0 {
			t.Errorf("Bell(%d): %d, %v, not %v", n, got, err, want)
		}
	}
	for _, n := range wrongNumbers() {
		if got, err := part.Bell(n); err != api.ErrArg || got != 0 {
			t.Errorf("Bell(%d): %d, %v", n, got, err)
		}
	}
}

func TestRunsOfBell(t *testing.T) {
	for _, x := range []struct {
		n    int
		want uint64
		err  api.Errno
	}{{0, 1, 0}, {1, 1, 0}, {2, 2, 0}, {3, 5, 0}, {4, 15, 0}, {12, 4213597, 0}, {25, 4638590332229999353, 0}, {26, 0, api.ErrArg}, {-1, 0, api.ErrArg}} {
		if got, err := part.Bell(x.n); got != x.want || err != x.err {
			t.Errorf("Bell(%d): %d, %v", x.n, got, err)
		}
	}
}

// P2.4, P2.10: Rank and At, there and back, and their ends.

func TestRankAndAtOfAllPatterns(t *testing.T) {
	for n := range 8 {
		all := patterns(n)
		for i, a := range all {
			if rank, err := part.Rank(a); rank != uint64(i) || err != api.OK {
				t.Errorf("Rank(%v): %d, %v, not %d", a, rank, err, i)
			}
			if at, err := part.At(n, uint64(i)); !slices.Equal(at, a) || err != api.OK {
				t.Errorf("At(%d, %d): %v, %v, not %v", n, i, at, err, a)
			}
		}
		for _, rank := range []uint64{uint64(len(all)), uint64(len(all)) + 1, 1 << 63, math.MaxUint64} {
			at, err := part.At(n, rank)
			wantErr(t, "At behind the last", at, err, api.ErrArg)
		}
	}
}

func TestRankAndAtOfLongPatterns(t *testing.T) {
	for n := 8; n <= 25; n++ {
		bell, _ := part.Bell(n)
		first, _ := part.First(n)
		last, _ := part.Last(n)
		checkRank(t, first, 0)
		checkRank(t, last, bell-1)
		for _, rank := range []uint64{1, 2, bell / 3, bell / 2, bell - bell/3, bell - 2} {
			a, _ := part.At(n, rank)
			checkRank(t, a, rank)
			if next, ok := part.Next(a); ok {
				checkRank(t, next, rank+1)
			}
		}
		at, err := part.At(n, bell)
		wantErr(t, "At behind the last", at, err, api.ErrArg)
	}
}

// checkRank holds Rank and At of a pattern against the rank that it has.
func checkRank(t *testing.T, a []int, want uint64) {
	t.Helper()
	if !isPattern(a) {
		t.Fatalf("no pattern: %v", a)
	}
	if rank, err := part.Rank(a); rank != want || err != api.OK {
		t.Errorf("Rank(%v): %d, %v, not %d", a, rank, err, want)
	}
	if at, err := part.At(len(a), want); !slices.Equal(at, a) || err != api.OK {
		t.Errorf("At(%d, %d): %v, %v, not %v", len(a), want, at, err, a)
	}
}

func TestRankOfNoPatterns(t *testing.T) {
	for _, a := range broken() {
		if rank, err := part.Rank(a); rank != 0 || err != api.ErrForm {
			t.Errorf("Rank(%v): %d, %v", a, rank, err)
		}
	}
}

func TestAtOfWrongNumbers(t *testing.T) {
	for _, n := range wrongNumbers() {
		for _, rank := range []uint64{0, 1, math.MaxUint64} {
			at, err := part.At(n, rank)
			wantErr(t, "At of "+strconv.Itoa(n), at, err, api.ErrArg)
		}
	}
}

func TestRunsOfRankAndAt(t *testing.T) {
	checkRank(t, []int{0, 1, 0}, 2)
	at, err := part.At(3, 5)
	wantErr(t, "At(3, 5)", at, err, api.ErrArg)
}
