package tally_test

import (
	"testing"

	"provost/api"
	"provost/solve"
	"provost/tally"
)

// The chapter's runs and examples.

func TestRuns(t *testing.T) {
	apart := r(api.Apart, 0, 0, 1)
	for _, x := range []struct {
		p    api.Problem
		want told
	}{
		{open(2, who(u{0, 1}, u{0, 1})), told{4, []u{{0, 0}, {1, 1}, {0, 1}, {1, 0}}, []uint64{3, 3}, [2]int{1, 2}, true, 1, true}},
		{open(2, who(u{0, 1}, u{0, 1}), apart), told{2, []u{{0, 1}, {1, 0}}, []uint64{3, 3}, [2]int{2, 2}, true, 1, true}},
		{open(2, who(u{0}, u{0, 1}, u{1}), r(api.Same, 0, 0, 1)), told{1, []u{{0, 0, 1}}, []uint64{1, 1, 2}, [2]int{2, 2}, true, 2, true}},
		{open(1, who(u{0}, u{0}), apart), told{live: []uint64{0, 0}}},
		{api.Problem{}, told{1, []u{{}}, nil, [2]int{0, 0}, true, 0, true}},
		{api.Problem{Users: 64}, told{1, []u{{}}, nil, [2]int{0, 0}, true, 0, true}},
	} {
		checkTold(t, x.p, x.want)
		check(t, x.p)
	}
}

func TestRunsOfPlans(t *testing.T) {
	p := open(2, who(u{0, 1}, u{0, 1}), r(api.Apart, 0, 0, 1))
	for _, x := range [][2]uint64{{9, 2}, {1, 1}, {0, 0}} {
		if got := tally.Plans(p, x[0]); got != x[1] {
			t.Errorf("Plans up to %d: %d, not %d", x[0], got, x[1])
		}
	}
}

// Plans(p, 1) is 1 just if p has a plan.
func TestExampleOfOnePlan(t *testing.T) {
	times := map[uint64]int{}
	for _, p := range append(drawn(), wrong()...) {
		got, can := tally.Plans(p, 1), solve.New().Can(p)
		if (got == 1) != can {
			t.Fatalf("%v: Plans up to 1: %d; Can %v", p, got, can)
		}
		times[got]++
	}
	if times[0] < 100 || times[1] < 100 || len(times) != 2 {
		t.Error("problems without and with plans:", times)
	}
}

// A fixed step's word in Live is its user's bit, where there is a plan, whether
// Who has the user or not.
func TestExampleOfAFixedStep(t *testing.T) {
	seen := 0
	for _, p := range drawn() {
		can := solve.New().Can(p)
		for step, w := range tally.Live(p) {
			if p.Fixed[step] < 0 {
				continue
			}
			if !can && w != 0 || can && w != 1<<p.Fixed[step] {
				t.Fatalf("%v: Live of step %d: %b", p, step, w)
			}
			if can && p.Who[step]>>p.Fixed[step]&1 == 0 {
				seen++
			}
		}
	}
	if seen == 0 {
		t.Error("no problem with a step of a user whom Who has not")
	}
}

// Of a problem that Check does not take nothing is told.
func TestWrongProblems(t *testing.T) {
	for _, p := range wrong() {
		checkTold(t, p, nothing)
		for _, most := range []uint64{0, 1, 1 << 63} {
			if got := tally.Plans(p, most); got != 0 {
				t.Errorf("%v: Plans up to %d: %d", p, most, got)
			}
		}
	}
}

func TestAtTheLimits(t *testing.T) {
	few := r(api.Few, 1, 0)
	check(t, forAll(12, 1))
	check(t, forAll(1, 64))
	check(t, open(64, who(u{63})))
	check(t, fixed(open(64, who(u{0}, u{0}), r(api.Apart, 0, 0, 1)), 63, -1))
	check(t, open(0, who(u{}, u{})))
	check(t, api.Problem{Users: 0})
	rules := make([]api.Rule, 32)
	for i := range rules {
		rules[i] = few
	}
	check(t, forAll(2, 2, rules...))
	checkTold(t, forAll(2, 2, append(rules, few)...), nothing)
}
