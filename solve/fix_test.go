package solve_test

import (
	"math"
	"slices"
	"testing"

	"provost/api"
	"provost/solve"
)

// P12.3

// same: are they one problem? Nil and empty lists are one.
func same(p, q api.Problem) bool {
	alike := func(x, y api.Rule) bool {
		return x.Kind == y.Kind && x.K == y.K && slices.Equal(x.Steps, y.Steps)
	}
	return p.Users == q.Users && slices.Equal(p.Who, q.Who) && slices.Equal(p.Fixed, q.Fixed) && slices.EqualFunc(p.Rules, q.Rules, alike)
}

func TestFix(t *testing.T) {
	for _, p := range drawn() {
		for step := -2; step < len(p.Who)+2; step++ {
			for user := -2; user < p.Users+2; user++ {
				checkFix(t, p, step, user)
			}
		}
	}
}

func checkFix(t *testing.T, p api.Problem, step, user int) {
	t.Helper()
	q, err := solve.Fix(p, step, user)
	if step < 0 || step >= len(p.Who) || user < 0 || user >= p.Users {
		if err != api.ErrArg || !same(q, api.Problem{}) {
			t.Fatalf("%v: Fix(%d, %d): %v, %v", p, step, user, q, err)
		}
		return
	}
	want := copied(p)
	want.Fixed[step] = user
	if err != api.OK || !same(q, want) {
		t.Fatalf("%v: Fix(%d, %d): %v, %v", p, step, user, q, err)
	}
}

func TestFixAtTheLimits(t *testing.T) {
	p := forAll(12, 64, r(api.Most, 2, upTo(12)...))
	for _, x := range [][2]int{{0, 0}, {11, 63}, {12, 0}, {0, 64}, {-1, 0}, {0, -1}, {math.MaxInt, 0}, {math.MinInt, 0}, {0, math.MaxInt}, {0, math.MinInt}} {
		checkFix(t, p, x[0], x[1])
	}
	checkFix(t, api.Problem{}, 0, 0)
	checkFix(t, open(0, who(u{})), 0, 0)
}

// A step that is fixed may be fixed to another user, and to one whom Who has not.
func TestFixAgain(t *testing.T) {
	p := with(open(3, who(u{0}, u{0})), 1, -1)
	q, err := solve.Fix(p, 0, 2)
	if err != api.OK || q.Fixed[0] != 2 || q.Who[0] != 1 {
		t.Error("Fix:", q, err)
	}
	checkFirst(t, q, u{2, 0}, true)
	q, err = solve.Fix(q, 0, 0)
	if err != api.OK {
		t.Error("Fix:", q, err)
	}
	checkFirst(t, q, u{0, 0}, true)
}

// What Check refuses is told, whatever the step and the user are.
func TestFixOfWrongProblems(t *testing.T) {
	for _, p := range wrong() {
		for _, x := range [][2]int{{0, 0}, {-1, 0}, {0, -1}, {99, 99}} {
			q, err := solve.Fix(p, x[0], x[1])
			if err != solve.Check(p) || !same(q, api.Problem{}) {
				t.Errorf("%v: Fix%v: %v, %v", p, x, q, err)
			}
		}
	}
}
