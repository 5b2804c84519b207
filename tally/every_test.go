package tally_test

import (
	"slices"
	"testing"

	"provost/api"
	"provost/rule"
)

// All promises at once, held against the model.

// everyProblem hands over all problems of n steps with one rule, or with none.
func everyProblem(n, users int, do func(api.Problem)) {
	problems := []api.Problem{{Users: users}}
	for range n {
		var longer []api.Problem
		for _, p := range problems {
			for w := range uint64(1) << users {
				for user := -1; user < users; user++ {
					q := api.Problem{Users: users, Who: append(slices.Clone(p.Who), w), Fixed: append(slices.Clone(p.Fixed), user)}
					longer = append(longer, q)
				}
			}
		}
		problems = longer
	}
	rules := everyRule(n)
	for _, p := range problems {
		do(p)
		for _, x := range rules {
			p.Rules = []api.Rule{x}
			do(p)
		}
	}
}

func TestEverySmallProblem(t *testing.T) {
	for n := range 3 {
		for users := range 3 {
			everyProblem(n, users, func(p api.Problem) { check(t, p) })
		}
	}
	everyProblem(2, 3, func(p api.Problem) { check(t, p) })
}

// Two rules between three steps which all users may do, or nearly all.
func TestEveryTwoRules(t *testing.T) {
	for _, a := range everyRule(3) {
		for _, b := range everyRule(3) {
			check(t, forAll(3, 3, a, b))
			check(t, open(3, who(u{0, 1, 2}, u{0, 2}, u{1, 2}), a, b))
			check(t, fixed(forAll(3, 3, a, b), -1, 0, -1))
		}
	}
}

// One rule between four steps, in which the steps' order and the users' tell.
func TestEveryRuleOfFourSteps(t *testing.T) {
	for _, x := range everyRule(4) {
		check(t, forAll(4, 3, x))
		check(t, open(4, who(u{3}, u{0, 3}, u{0, 1, 2}, u{2, 3}), x))
		check(t, fixed(open(4, who(u{1, 2}, u{}, u{0, 1, 3}, u{0, 2}), x), -1, 2, -1, -1))
	}
}

func TestDrawnProblems(t *testing.T) {
	for _, p := range drawn() {
		check(t, p)
	}
}

// Steps in great number, of so few users that all lists can be tried out.
func TestDrawnProblemsOfManySteps(t *testing.T) {
	d := dice(5)
	for i := range 40 {
		p := d.problem(8+i%5, 2, d.draw(3))
		check(t, p)
		check(t, fixed(p, slices.Repeat(u{-1}, len(p.Who))...))
	}
	for i := range 20 {
		p := d.problem(7+i%2, 3, 1+d.draw(3))
		check(t, fixed(p, slices.Repeat(u{-1}, len(p.Who))...))
	}
}

// As many rules as there may be: no room is left for one more.
func TestDrawnProblemsOfManyRules(t *testing.T) {
	d := dice(9)
	with := 0
	for range 300 {
		p := d.problem(5, 4, 0)
		loose := everyRule(5)
		plan := u{d.draw(4), d.draw(4), d.draw(4), d.draw(4), d.draw(4)}
		loose = slices.DeleteFunc(loose, func(x api.Rule) bool { return !rule.Holds(x, plan) })
		for range api.MaxRules {
			p.Rules = append(p.Rules, loose[d.draw(len(loose))])
		}
		check(t, p)
		if model(p).count > 0 {
			with++
		}
	}
	if with < 20 {
		t.Error("problems with plans:", with)
	}
}
