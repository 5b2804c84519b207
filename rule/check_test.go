package rule_test

import (
	"math"
	"testing"

	"provost/api"
	"provost/rule"
)

// P6.1

func wantCheck(t *testing.T, n int, r api.Rule, want api.Errno) {
	t.Helper()
	if got := rule.Check(n, r); got != want {
		t.Errorf("Check(%d, %s): %v, not %v", n, show(r), got, want)
	}
}

func modelCheck(t *testing.T, n int, r api.Rule) {
	t.Helper()
	want := api.ErrArg
	if taken(n, r) {
		want = api.OK
	}
	wantCheck(t, n, r, want)
}

// Each kind with each K that stands at an edge, over each kind of list.
func TestCheckOfKindsAndKsAndSteps(t *testing.T) {
	lists := [][]int{nil, {}, {0}, {2}, {11}, {12}, {-1}, {0, 1}, {1, 0}, {0, 0}, {0, 2}, {2, 3}, {-1, 0}, {0, 11}, {0, 12}, {0, 1, 1}, {0, 2, 1}, {1, 2, 3}, {0, 1, 2, 3}, {3, 2, 1},
		{0, 1, 2, 3, 4, 5, 6, 7, 8, 9, 10, 11}, {0, 1, 2, 3, 4, 5, 6, 7, 8, 9, 10, 11, 12}, {math.MinInt}, {math.MaxInt}, {0, math.MaxInt}, {math.MinInt, 0}, {math.MaxInt, math.MinInt}}
	for _, n := range []int{math.MinInt, -1, 0, 1, 2, 3, 4, 11, 12, 13, 64, math.MaxInt} {
		for _, kind := range []int{math.MinInt, -1, 0, 1, 2, 3, 4, 5, 6, 7, math.MaxInt} {
			for _, k := range []int{math.MinInt, -1, 0, 1, 2, 3, 4, 5, 11, 12, 13, 999999998, 999999999, 1000000000, math.MaxInt} {
				for _, steps := range lists {
					modelCheck(t, n, of(kind, k, steps...))
				}
			}
		}
	}
}

func TestCheckOfEveryShortList(t *testing.T) {
	for n := range 4 {
		for length := range 4 {
			for _, steps := range rows(length, -1, 0, 1, 2, 3) {
				for kind := range 7 {
					for k := range 4 {
						modelCheck(t, n, of(kind, k, steps...))
					}
				}
			}
		}
	}
}

func TestCheckOfEveryRisingList(t *testing.T) {
	for _, steps := range stepsOf(12) {
		for _, r := range []api.Rule{of(api.Apart, 0, steps...), of(api.Same, 0, steps...), of(api.Most, 1, steps...), of(api.Few, 999999999, steps...), of(api.Many, len(steps), steps...), of(api.Many, len(steps)+1, steps...)} {
			for _, n := range []int{11, 12} {
				modelCheck(t, n, r)
			}
		}
	}
}

// The edges that the chapter names, by hand.
func TestCheckAtTheEdges(t *testing.T) {
	for _, x := range []struct {
		n    int
		r    api.Rule
		want api.Errno
	}{
		{12, of(api.Apart, 0, 0, 11), api.OK}, {13, of(api.Apart, 0, 0, 11), api.ErrArg}, {11, of(api.Apart, 0, 0, 11), api.ErrArg},
		{0, of(api.Many, 1), api.ErrArg}, {-1, of(api.Most, 1), api.ErrArg}, {0, of(api.Most, 1, 0), api.ErrArg}, {1, of(api.Most, 1, 0), api.OK},
		{1, of(api.Few, 999999999, 0), api.OK}, {1, of(api.Few, 1000000000, 0), api.ErrArg}, {1, of(api.Most, 999999999, 0), api.OK}, {1, of(api.Most, 1000000000, 0), api.ErrArg},
		{1, of(api.Few, -1, 0), api.ErrArg}, {1, of(api.Most, 0, 0), api.ErrArg}, {1, of(api.Few, 1), api.ErrArg}, {1, of(api.Most, 1), api.ErrArg},
		{2, of(api.Same, 0, 0, 1), api.OK}, {2, of(api.Same, 0, 1), api.ErrArg}, {2, of(api.Same, 1, 0, 1), api.ErrArg}, {2, of(api.Apart, -1, 0, 1), api.ErrArg},
		{2, of(api.Many, 1, 1), api.OK}, {2, of(api.Many, 2, 1), api.ErrArg}, {2, of(api.Many, 2, 0, 1), api.OK}, {2, of(api.Many, 0, 0, 1), api.ErrArg}, {2, of(api.Many, -1, 0, 1), api.ErrArg},
	} {
		wantCheck(t, x.n, x.r, x.want)
	}
}
