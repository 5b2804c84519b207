package core_test

import (
	"fmt"
	"slices"
	"testing"

	"provost/api"
	"provost/core"
	"provost/rule"
	"provost/solve"
)

// u is a list of users, of steps or of places.
type u = []int

// who makes words of lists of users.
func who(lists ...[]int) []uint64 {
	var words []uint64
	for _, users := range lists {
		var word uint64
		for _, user := range users {
			word |= 1 << user
		}
		words = append(words, word)
	}
	return words
}

func r(kind, k int, steps ...int) api.Rule { return api.Rule{Kind: kind, K: k, Steps: steps} }

// open is a problem none of whose steps is fixed.
func open(users int, who []uint64, rules ...api.Rule) api.Problem {
	return api.Problem{Users: users, Who: who, Fixed: slices.Repeat(u{-1}, len(who)), Rules: rules}
}

// fixed is the problem with other steps fixed.
func fixed(p api.Problem, users ...int) api.Problem {
	p.Fixed = users
	return p
}

// forAll is a problem of n steps which all users may do.
func forAll(n, users int, rules ...api.Rule) api.Problem {
	return open(users, slices.Repeat([]uint64{1<<users - 1}, n), rules...)
}

// upTo are the numbers ahead of n.
func upTo(n int) []int {
	var l []int
	for i := range n {
		l = append(l, i)
	}
	return l
}

// show is a problem with nil and empty lists as one.
func show(p api.Problem) string { return fmt.Sprint(p) }

// without is the problem that the chapter's words ask for.
func without(p api.Problem, rules, steps []int) api.Problem {
	q := api.Problem{Users: p.Users}
	for step, word := range p.Who {
		if slices.Contains(steps, step) {
			q.Who, q.Fixed = append(q.Who, who(upTo(p.Users))[0]), append(q.Fixed, -1)
		} else {
			q.Who, q.Fixed = append(q.Who, word), append(q.Fixed, p.Fixed[step])
		}
	}
	for place, x := range p.Rules {
		if !slices.Contains(rules, place) {
			q.Rules = append(q.Rules, x)
		}
	}
	return q
}

// why is the chapter's search, one thing behind the other, of a problem without a
// plan. can says whether a problem has one.
func why(p api.Problem, can func(api.Problem) bool) (rules, steps []int) {
	var goneRules, goneSteps []int
	for place := range p.Rules {
		if tried := append(slices.Clone(goneRules), place); can(without(p, tried, nil)) {
			rules = append(rules, place)
		} else {
			goneRules = tried
		}
	}
	for step := range p.Who {
		if tried := append(slices.Clone(goneSteps), step); can(without(p, goneRules, tried)) {
			steps = append(steps, step)
		} else {
			goneSteps = tried
		}
	}
	return rules, steps
}

// tryOut: is there a plan among all lists of users?
func tryOut(p api.Problem) bool { return tryBehind(p, nil) }

func tryBehind(p api.Problem, list []int) bool {
	step := len(list)
	if step == len(p.Who) {
		return !slices.ContainsFunc(p.Rules, func(x api.Rule) bool { return !keeps(x, list) })
	}
	for user := range p.Users {
		mayDo := p.Fixed[step] == user || p.Fixed[step] == -1 && p.Who[step]>>user%2 == 1
		if mayDo && tryBehind(p, append(slices.Clone(list), user)) {
			return true
		}
	}
	return false
}

// keeps: do the labels of the rule's steps stand as the table of chapter 6 asks?
func keeps(x api.Rule, labels []int) bool {
	times := map[int]int{}
	most := 0
	for _, step := range x.Steps {
		times[labels[step]]++
		most = max(most, times[labels[step]])
	}
	return map[int]bool{
		api.Apart: most == 1,
		api.Same:  len(times) == 1,
		api.Most:  most <= x.K,
		api.Few:   len(times) <= x.K,
		api.Many:  len(times) >= x.K,
	}[x.Kind]
}

// checkWhy holds Why against the search of the chapter, of a problem that Check
// takes, and says whether the problem has no plan.
func checkWhy(t *testing.T, p api.Problem, can func(api.Problem) bool) bool {
	t.Helper()
	if can(p) {
		checkTold(t, p, nil, nil, false)
		return false
	}
	rules, steps := why(p, can)
	checkTold(t, p, rules, steps, true)
	return true
}

// checkTold: is that what Why tells?
func checkTold(t *testing.T, p api.Problem, wantRules, wantSteps []int, want bool) {
	t.Helper()
	rules, steps, stuck := core.Why(p)
	if !slices.Equal(rules, wantRules) || !slices.Equal(steps, wantSteps) || stuck != want {
		t.Fatalf("%v: Why: %v, %v, %v; not %v, %v, %v", p, rules, steps, stuck, wantRules, wantSteps, want)
	}
}

// checkWithout: is that what Without tells, and nothing beside an error?
func checkWithout(t *testing.T, p api.Problem, rules, steps []int, want api.Errno) {
	t.Helper()
	var left api.Problem
	if want == api.OK {
		left = without(p, rules, steps)
	}
	if got, err := core.Without(p, rules, steps); err != want || show(got) != show(left) {
		t.Fatalf("%v: Without(%v, %v): %v, %v; not %v, %v", p, rules, steps, got, err, left, want)
	}
}

// dice draws numbers that look like chance, and are the same in each run.
type dice uint64

func (d *dice) draw(n int) int {
	*d = *d*6364136223846793005 + 1442695040888963407
	return int(*d>>33) % n
}

// some are numbers ahead of n, each one there or not.
func (d *dice) some(n int) []int {
	return slices.DeleteFunc(upTo(n), func(int) bool { return d.draw(2) == 0 })
}

// problem is one that Check takes, of n steps and so many rules or fewer.
func (d *dice) problem(n, users, rules int) api.Problem {
	p := api.Problem{Users: users}
	for range n {
		p.Who = append(p.Who, who(d.some(users))[0])
		p.Fixed = append(p.Fixed, max(-1, d.draw(users+9)-9))
	}
	for range rules {
		if x := d.rule(n); rule.Check(n, x) == api.OK {
			p.Rules = append(p.Rules, x)
		}
	}
	return p
}

// rule is one between n steps, or none, where there are too few steps for it.
func (d *dice) rule(n int) api.Rule {
	within, kind, k := d.some(n), 1+d.draw(5), 0
	if kind > api.Same {
		k = 1 + d.draw(len(within)+1)
	}
	return r(kind, k, within...)
}

// drawn are problems of a few steps and users.
func drawn() []api.Problem {
	var l []api.Problem
	d := dice(15)
	for i := range 3000 {
		l = append(l, d.problem(i%6, d.draw(5), d.draw(8)))
	}
	return l
}

// drawnGreat are problems of up to twelve steps, 64 users and 32 rules.
func drawnGreat() []api.Problem {
	var l []api.Problem
	d := dice(51)
	for i := range 600 {
		l = append(l, d.problem(6+i%7, d.draw(65), d.draw(33)))
	}
	return l
}

// stuck are those problems that have no plan.
func stuck(t *testing.T, problems []api.Problem) []api.Problem {
	t.Helper()
	l := slices.DeleteFunc(problems, solve.New().Can)
	if len(l) < 300 {
		t.Fatal("problems without a plan:", len(l))
	}
	return l
}

// wrong are problems that Check does not take.
func wrong() []api.Problem {
	good := forAll(3, 3)
	return []api.Problem{
		forAll(13, 3),
		{Users: 65},
		{Users: -1},
		{Users: -1 << 63},
		{Users: 1<<63 - 1},
		forAll(3, 3, slices.Repeat([]api.Rule{r(api.Few, 1, 0)}, 33)...),
		fixed(good),
		fixed(good, -1, -1),
		fixed(good, -1, -1, -1, -1),
		fixed(good, -1, -2, -1),
		fixed(good, -1, -1, 3),
		open(3, who(u{}, u{1, 3}, u{2})),
		open(0, who(u{0})),
		forAll(3, 3, r(api.Apart, 0, 1, 3)),
		forAll(3, 3, r(api.Apart, 0, 0, 1), r(api.Most, 0, 0, 1)),
		forAll(3, 3, r(0, 0, 0, 1)),
		forAll(2, 0, r(api.Apart, 0, 1, 0)),
		{Users: 3, Rules: make([]api.Rule, 1)},
	}
}
