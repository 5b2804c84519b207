package part_test

import (
	"math"
	"slices"
	"strconv"
	"strings"
	"testing"

	"provost/api"
	"provost/part"
)

// text writes a row, so that rows can stand in tables and messages.
func text(a []int) string {
	var l []string
	for _, x := range a {
		l = append(l, strconv.Itoa(x))
	}
	return strings.Join(l, " ")
}

// isPattern is the chapter's definition, word for word.
func isPattern(a []int) bool {
	if len(a) > 25 {
		return false
	}
	for i, x := range a {
		if i == 0 && x != 0 || i > 0 && (x < 0 || x > slices.Max(a[:i])+1) {
			return false
		}
	}
	return true
}

// rows are all rows of n numbers between low and high, in their order.
func rows(n, low, high int) [][]int {
	if n == 0 {
		return [][]int{{}}
	}
	var l [][]int
	for _, a := range rows(n-1, low, high) {
		for x := low; x <= high; x++ {
			l = append(l, append(slices.Clone(a), x))
		}
	}
	return l
}

// patterns are all patterns of n, in their order: sieved out of all rows for a
// small n, grown place by place from there on.
func patterns(n int) [][]int {
	if n <= 4 {
		return slices.DeleteFunc(rows(n, 0, 4), func(a []int) bool { return !isPattern(a) })
	}
	var l [][]int
	for _, a := range patterns(n - 1) {
		for x := 0; x <= slices.Max(a)+1; x++ {
			l = append(l, append(slices.Clone(a), x))
		}
	}
	return l
}

// broken are rows that are no patterns.
func broken() [][]int {
	long := make([]int, 27)
	for i := range long {
		long[i] = i
	}
	return [][]int{
		{1}, {-1}, {0, 2}, {0, -1}, {0, 0, 2}, {0, 1, 3}, {0, 1, 2, -1}, {0, 1, 2, 4}, {1, 0}, {2, 1, 0}, {-1, 0}, {0, 1, -1, 2},
		{math.MaxInt}, {math.MinInt}, {0, math.MaxInt}, {0, math.MinInt}, {0, math.MaxInt, math.MaxInt}, {0, 1, math.MaxInt, math.MinInt},
		make([]int, 26), long[:26], long, make([]int, 1000),
	}
}

func wantRow(t *testing.T, what string, got []int, want string) {
	t.Helper()
	if text(got) != want {
		t.Errorf("%s: %v, not [%s]", what, got, want)
	}
}

func wantErr(t *testing.T, what string, row []int, err, want api.Errno) {
	t.Helper()
	if err != want || want != api.OK && len(row) != 0 {
		t.Errorf("%s: %v, %v, not %v", what, row, err, want)
	}
}

// P2.1

func TestLegalIsTheDefinition(t *testing.T) {
	for n := range 5 {
		for _, a := range rows(n, -2, 5) {
			if got := part.Legal(a); got != isPattern(a) {
				t.Errorf("Legal(%v): %v", a, got)
			}
		}
	}
	for _, a := range broken() {
		if part.Legal(a) {
			t.Errorf("Legal(%v)", a)
		}
	}
}

func TestLegalAtMostTwentyFivePlaces(t *testing.T) {
	for n := range 30 {
		zeros, own := make([]int, n), make([]int, n)
		for i := range own {
			own[i] = i
		}
		if part.Legal(zeros) != (n <= 25) || part.Legal(own) != (n <= 25) {
			t.Error("Legal of", n, "places")
		}
	}
}

func TestRunsOfLegal(t *testing.T) {
	for _, x := range []struct {
		a    []int
		want bool
	}{{nil, true}, {[]int{}, true}, {[]int{0}, true}, {[]int{0, 1, 0, 2}, true}, {[]int{1}, false}, {[]int{0, 2}, false}, {[]int{0, -1}, false}, {make([]int, 26), false}} {
		if got := part.Legal(x.a); got != x.want {
			t.Errorf("Legal(%v): %v", x.a, got)
		}
	}
}

// P2.3

func TestFirstAndLast(t *testing.T) {
	for n := range 26 {
		zeros, own := make([]int, n), make([]int, n)
		for i := range own {
			own[i] = i
		}
		first, err := part.First(n)
		wantRow(t, "First", first, text(zeros))
		wantErr(t, "First", first, err, api.OK)
		last, err := part.Last(n)
		wantRow(t, "Last", last, text(own))
		wantErr(t, "Last", last, err, api.OK)
	}
}

func TestFirstAndLastOfWrongNumbers(t *testing.T) {
	for _, n := range wrongNumbers() {
		first, err := part.First(n)
		wantErr(t, "First "+strconv.Itoa(n), first, err, api.ErrArg)
		last, err := part.Last(n)
		wantErr(t, "Last "+strconv.Itoa(n), last, err, api.ErrArg)
	}
}

// wrongNumbers are numbers of places that no pattern has.
func wrongNumbers() []int {
	return []int{-1, -2, -25, 26, 27, 64, 1 << 40, math.MinInt, math.MaxInt}
}
