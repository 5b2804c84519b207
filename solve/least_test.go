package solve_test

import (
	"slices"
	"testing"

	"provost/api"
	"provost/solve"
)

// P12.4

// oneRule are all rules between n steps, with a K that tells.
func oneRule(n int) []api.Rule {
	var l []api.Rule
	for s := 1; s < 1<<n; s++ {
		var steps []int
		for step := range n {
			if s>>step&1 == 1 {
				steps = append(steps, step)
			}
		}
		if len(steps) > 1 {
			l = append(l, r(api.Apart, 0, steps...), r(api.Same, 0, steps...))
		}
		for k := 1; k <= len(steps); k++ {
			l = append(l, r(api.Most, k, steps...), r(api.Few, k, steps...), r(api.Many, k, steps...))
		}
	}
	return l
}

// everyProblem hands over all problems of n steps with one rule, or with none.
func everyProblem(n, users int, do func(api.Problem)) {
	for _, words := range lists(n, 0, 1<<users-1) {
		for _, fixed := range lists(n, -1, users-1) {
			p := api.Problem{Users: users, Fixed: fixed}
			for _, w := range words {
				p.Who = append(p.Who, uint64(w))
			}
			do(p)
			for _, x := range oneRule(n) {
				p.Rules = []api.Rule{x}
				do(p)
			}
		}
	}
}

func TestEverySmallProblem(t *testing.T) {
	for n := range 3 {
		for users := range 4 {
			everyProblem(n, users, func(p api.Problem) { check(t, p) })
		}
	}
	everyProblem(3, 2, func(p api.Problem) { check(t, p) })
}

// Two rules between three steps which all users may do, or nearly all.
func TestEveryTwoRules(t *testing.T) {
	for _, a := range oneRule(3) {
		for _, b := range oneRule(3) {
			check(t, forAll(3, 3, a, b))
			check(t, open(3, who(u{0, 1, 2}, u{0, 2}, u{1, 2}), a, b))
			check(t, with(forAll(3, 3, a, b), -1, -1, 0))
		}
	}
}

func TestDrawnProblems(t *testing.T) {
	for _, p := range drawn() {
		check(t, p)
	}
}

// Steps in great number, of so few users that all lists can be tried out.
func TestDrawnProblemsOfManySteps(t *testing.T) {
	d := dice(41)
	for i := range 60 {
		p := d.problem(8+i%5, 2, d.draw(8))
		check(t, p)
	}
	for range 25 {
		p := d.problem(8, 3, d.draw(6))
		for step := range p.Fixed {
			p.Fixed[step] = -1
		}
		check(t, p)
	}
}

// Users by their greatest numbers.
func TestLeastOfTheLastUsers(t *testing.T) {
	checkFirst(t, open(64, who(u{63}, u{0, 63}), r(api.Apart, 0, 0, 1)), u{63, 0}, true)
	checkFirst(t, open(64, who(u{62, 63}, u{62, 63})), u{62, 62}, true)
	checkFirst(t, open(64, who(u{62, 63}, u{63})), u{63, 63}, true)
	checkFirst(t, open(64, who(u{62, 63}, u{63}), r(api.Many, 2, 0, 1)), u{62, 63}, true)
	checkFirst(t, with(open(64, who(u{}, u{63}), r(api.Same, 0, 0, 1)), 63, -1), u{63, 63}, true)
	checkFirst(t, with(open(64, who(u{63}, u{63}), r(api.Same, 0, 0, 1)), 62, -1), nil, false)
	checkFirst(t, with(forAll(2, 64, r(api.Apart, 0, 0, 1)), 63, 63), nil, false)
}

// The pattern goes ahead of the users: that the first step has a lesser one is
// not worth a block more.
func TestLeastPutsThePatternFirst(t *testing.T) {
	checkFirst(t, open(3, who(u{0, 2}, u{1, 2})), u{2, 2}, true)
	checkFirst(t, open(4, who(u{0, 3}, u{1, 3}, u{0, 1, 2}, u{0, 3})), u{3, 3, 0, 3}, true)
	checkFirst(t, open(4, who(u{0, 3}, u{3}, u{0}, u{0, 3})), u{3, 3, 0, 3}, true)
	// The users of one pattern: block 0 has the least that leaves the others one.
	checkFirst(t, open(3, who(u{1, 2}, u{0, 1}, u{1, 2}), r(api.Apart, 0, 0, 1, 2)), u{1, 0, 2}, true)
	checkFirst(t, open(3, who(u{0, 1}, u{0}, u{0, 1, 2}), r(api.Apart, 0, 0, 1, 2)), u{1, 0, 2}, true)
}

func TestLeastOfTwelveSteps(t *testing.T) {
	all := upTo(12)
	checkFirst(t, forAll(12, 64), make([]int, 12), true)
	checkFirst(t, forAll(12, 64, r(api.Apart, 0, all...)), all, true)
	checkFirst(t, forAll(12, 12, r(api.Apart, 0, all...)), all, true)
	checkFirst(t, forAll(12, 11, r(api.Apart, 0, all...)), nil, false)
	checkFirst(t, forAll(12, 64, r(api.Many, 12, all...)), all, true)
	checkFirst(t, forAll(12, 11, r(api.Many, 12, all...)), nil, false)
	checkFirst(t, forAll(12, 64, r(api.Most, 5, all...)), u{0, 0, 0, 0, 0, 1, 1, 1, 1, 1, 2, 2}, true)
	checkFirst(t, forAll(12, 2, r(api.Most, 6, all...), r(api.Apart, 0, 0, 11)), u{0, 0, 0, 0, 0, 0, 1, 1, 1, 1, 1, 1}, true)
	checkFirst(t, forAll(12, 3, r(api.Most, 3, all...)), nil, false)
	checkFirst(t, forAll(12, 64, r(api.Few, 1, all...), r(api.Many, 2, 10, 11)), nil, false)
	// Each step has a user of its own, from the last one down.
	falling := open(12, nil)
	for step := range 12 {
		falling.Who = append(falling.Who, 1<<(11-step))
		falling.Fixed = append(falling.Fixed, -1)
	}
	want := slices.Clone(all)
	slices.Reverse(want)
	checkFirst(t, falling, want, true)
	falling.Rules = []api.Rule{r(api.Few, 11, all...)}
	checkFirst(t, falling, nil, false)
}

// Reasons that stand at the last steps, where a search comes late: that there is
// no plan is seen in good time nevertheless.
func TestNoPlanForTheLastSteps(t *testing.T) {
	one := forAll(12, 64, r(api.Apart, 0, 10, 11))
	one.Who[10], one.Who[11] = 1<<63, 1<<63
	none := forAll(12, 64)
	none.Who[11] = 0
	unlike := forAll(12, 64, r(api.Few, 1, 10, 11), r(api.Many, 2, 10, 11))
	tied := forAll(12, 64, r(api.Same, 0, 9, 11), r(api.Same, 0, 9, 10), r(api.Apart, 0, 10, 11))
	fixed := forAll(12, 64, r(api.Same, 0, 10, 11))
	fixed.Fixed[10], fixed.Fixed[11] = 3, 4
	for _, p := range []api.Problem{one, none, unlike, tied, fixed} {
		checkFirst(t, p, nil, false)
		s := solve.New()
		s.Least(p)
		if s.Gauge().Nodes > 100 {
			t.Errorf("%v: gauge %v", p, s.Gauge())
		}
	}
}

func TestNoPlanOfWrongProblems(t *testing.T) {
	s := solve.New()
	for _, p := range wrong() {
		if plan, is := s.Least(p); len(plan) > 0 || is || s.Can(p) {
			t.Errorf("%v: Least %v, %v; Can %v", p, plan, is, s.Can(p))
		}
	}
}
