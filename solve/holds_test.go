package solve_test

import (
	"math"
	"slices"
	"testing"

	"provost/api"
	"provost/solve"
)

// P12.2

// lists are all lists of n numbers of low to high.
func lists(n, low, high int) [][]int {
	all := [][]int{{}}
	for range n {
		var longer [][]int
		for _, l := range all {
			for x := low; x <= high; x++ {
				longer = append(longer, append(slices.Clone(l), x))
			}
		}
		all = longer
	}
	return all
}

func TestHoldsOfAllLists(t *testing.T) {
	d := dice(7)
	for i := range 200 {
		p := d.problem(i%5, d.draw(4), d.draw(3))
		plans := model(p).candidates()
		for n := range 6 {
			if n > len(p.Who)+1 {
				break
			}
			for _, l := range lists(n, -1, p.Users) {
				among := slices.ContainsFunc(plans, func(plan []int) bool { return slices.Equal(plan, l) })
				want := n == len(p.Who) && among && model(p).keeps(l)
				if solve.Holds(p, l) != want {
					t.Fatalf("%v: Holds(%v): %v", p, l, !want)
				}
			}
		}
	}
}

func TestHolds(t *testing.T) {
	p := open(3, who(u{0, 1}, u{0, 1}, u{2}), r(api.Apart, 0, 0, 1))
	late := with(open(3, who(u{0}, u{0}, u{2}), r(api.Apart, 0, 0, 1)), -1, 1, -1)
	sixtyFour := open(64, who(u{63}))
	for _, x := range []struct {
		p    api.Problem
		plan []int
		want bool
	}{
		{p, u{0, 1, 2}, true},
		{p, u{1, 0, 2}, true},
		{p, u{0, 0, 2}, false},
		{p, u{0, 2, 2}, false},
		{p, u{0, 1}, false},
		{p, u{0, 1, 2, 0}, false},
		{p, nil, false},
		{p, u{0, 1, 3}, false},
		{p, u{0, 1, 64}, false},
		{p, u{0, 1, 66}, false},
		{p, u{-1, 1, 2}, false},
		{p, u{math.MinInt, 1, 2}, false},
		{p, u{0, math.MaxInt, 2}, false},
		{late, u{0, 1, 2}, true},
		{late, u{0, 0, 2}, false},
		{with(p, 0, -1, -1), u{1, 0, 2}, false},
		{with(p, 2, -1, -1), u{2, 0, 2}, true},
		{with(p, 1, 1, 2), u{1, 1, 2}, false},
		{sixtyFour, u{63}, true},
		{sixtyFour, u{62}, false},
		{sixtyFour, u{64}, false},
		{api.Problem{}, nil, true},
		{api.Problem{}, u{}, true},
		{api.Problem{}, u{0}, false},
		{open(0, who(u{})), u{0}, false},
		{open(0, who(u{})), u{-1}, false},
	} {
		if solve.Holds(x.p, x.plan) != x.want {
			t.Errorf("%v: Holds(%v): %v", x.p, x.plan, !x.want)
		}
	}
}

func TestHoldsOfWrongProblems(t *testing.T) {
	for _, p := range wrong() {
		for _, plan := range [][]int{nil, u{0}, u{0, 1, 2}, make([]int, len(p.Who)), p.Fixed} {
			if solve.Holds(p, plan) {
				t.Errorf("%v: Holds(%v)", p, plan)
			}
		}
	}
}

func TestBeforeOfAllLists(t *testing.T) {
	for n := range 5 {
		all := lists(n, -1, 2)
		for _, a := range all {
			for _, b := range all {
				if want := ahead(a, b); solve.Before(a, b) != want {
					t.Fatalf("Before(%v, %v): %v", a, b, !want)
				}
			}
			if solve.Before(a, append(slices.Clone(a), 9)) || solve.Before(append(slices.Clone(a), 9), a) {
				t.Fatalf("Before of %v and a longer list", a)
			}
		}
	}
}

// Long lists of any ints: patterns are held against each other first, then users.
func TestBeforeOfLongLists(t *testing.T) {
	d := dice(25)
	ints := []int{math.MinInt, -1, 0, 1, 24, 25, math.MaxInt}
	var some [][]int
	for range 40 {
		l := make([]int, 25)
		for i := range l {
			l[i] = ints[d.draw(len(ints))]
		}
		some = append(some, l)
		other := slices.Clone(l)
		other[d.draw(25)] = ints[d.draw(len(ints))]
		some = append(some, other)
	}
	for _, a := range some {
		for _, b := range some {
			if want := ahead(a, b); solve.Before(a, b) != want {
				t.Fatalf("Before(%v, %v): %v", a, b, !want)
			}
		}
	}
}

// One pattern: the users of the first block in which they are unlike tell.
func TestBeforeInOnePattern(t *testing.T) {
	for _, x := range []struct {
		a, b []int
		want bool
	}{
		{u{5, 9, 5, 1}, u{5, 9, 5, 2}, true},
		{u{5, 9, 5, 2}, u{5, 9, 5, 1}, false},
		{u{4, 9, 4, 9}, u{5, 0, 5, 0}, true},
		{u{5, 0, 5, 0}, u{4, 9, 4, 9}, false},
		{u{math.MinInt, 0}, u{math.MaxInt, 0}, true},
		{u{0, math.MaxInt}, u{0, math.MinInt}, false},
		{u{3, 3}, u{3, 3}, false},
	} {
		if solve.Before(x.a, x.b) != x.want {
			t.Errorf("Before(%v, %v): %v", x.a, x.b, !x.want)
		}
	}
}

func TestBeforeAtTheLimit(t *testing.T) {
	for _, n := range []int{1, 2, 12, 13, 24, 25, 26, 27, 1000} {
		a, b := make([]int, n), make([]int, n)
		b[n-1] = 1
		if solve.Before(a, b) != (n <= 25) || solve.Before(b, a) || solve.Before(a, a) {
			t.Errorf("%d users: %v, %v, %v", n, solve.Before(a, b), solve.Before(b, a), solve.Before(a, a))
		}
	}
}

// Before is an order: of two lists that are not the same one comes ahead, and
// what comes ahead of one comes ahead of what that one is ahead of.
func TestBeforeIsAnOrder(t *testing.T) {
	all := lists(3, 0, 3)
	slices.SortFunc(all, func(a, b []int) int {
		if solve.Before(a, b) {
			return -1
		}
		if solve.Before(b, a) {
			return 1
		}
		return 0
	})
	for i, a := range all {
		for j, b := range all {
			if solve.Before(a, b) != (i < j) {
				t.Fatalf("Before(%v, %v): %v; they are sorted %d and %d", a, b, i >= j, i, j)
			}
		}
	}
}
