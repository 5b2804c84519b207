package core_test

import (
	"slices"
	"testing"

	"provost/api"
	"provost/core"
	"provost/solve"
)

// P15.3: the problem without all that is not left has no plan; without any one of
// what is left, too, it has one.
func TestNothingThatIsLeftCanBeSpared(t *testing.T) {
	s := solve.New()
	some := 0
	for _, p := range append(stuck(t, drawn()), stuck(t, drawnGreat())...) {
		rules, steps, is := core.Why(p)
		if !is || !slices.IsSorted(rules) || !slices.IsSorted(steps) {
			t.Fatalf("%v: Why: %v, %v, %v", p, rules, steps, is)
		}
		goneRules, goneSteps := besides(len(p.Rules), rules), besides(len(p.Who), steps)
		checkPlan(t, s, p, goneRules, goneSteps, false)
		if p.Users == 0 {
			continue
		}
		for _, place := range rules {
			checkPlan(t, s, p, append(slices.Clone(goneRules), place), goneSteps, true)
		}
		for _, step := range steps {
			checkPlan(t, s, p, goneRules, append(slices.Clone(goneSteps), step), true)
		}
		if len(rules)*len(steps) > 0 {
			some++
		}
	}
	if some < 100 {
		t.Error("reasons of rules and steps:", some)
	}
}

// besides are the numbers ahead of n that are not in a list.
func besides(n int, list []int) []int {
	return slices.DeleteFunc(upTo(n), func(i int) bool { return slices.Contains(list, i) })
}

// checkPlan: has the problem a plan without these, or none?
func checkPlan(t *testing.T, s *solve.Solver, p api.Problem, rules, steps []int, want bool) {
	t.Helper()
	if q, err := core.Without(p, rules, steps); err != api.OK || s.Can(q) != want {
		t.Fatalf("%v: Without(%v, %v): %v, %v; a plan: %v", p, rules, steps, q, err, !want)
	}
}

// Where there are no users and there are steps, nothing is left.
func TestNothingIsLeftWithoutUsers(t *testing.T) {
	d := dice(9)
	for i := range 300 {
		checkTold(t, d.problem(1+i%12, 0, 9), nil, nil, true)
	}
}
