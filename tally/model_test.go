package tally_test

import (
	"fmt"
	"math/bits"
	"slices"
	"testing"

	"provost/api"
	"provost/rule"
	"provost/solve"
	"provost/tally"
)

// told is all that the package tells of a problem.
type told struct {
	count    uint64
	plans    [][]int
	live     []uint64
	sizes    [2]int
	hasSizes bool
	load     int
	hasLoad  bool
}

// tell asks the package. Its problem has no more plans than are counted.
func tell(p api.Problem) told {
	x := told{count: tally.Plans(p, api.MaxCount), live: tally.Live(p)}
	for plan := range tally.All(p) {
		x.plans = append(x.plans, plan)
	}
	x.sizes[0], x.sizes[1], x.hasSizes = tally.Sizes(p)
	x.load, x.hasLoad = tally.Load(p)
	return x
}

// model is what the chapter's words say of a problem that Check takes: all lists
// of users are tried out.
func model(p api.Problem) told {
	x := told{plans: plansOf(p), live: make([]uint64, len(p.Who))}
	x.count = uint64(len(x.plans))
	for i, plan := range x.plans {
		users := map[int]int{}
		load := 0
		for step, user := range plan {
			x.live[step] |= 1 << user
			users[user]++
			load = max(load, users[user])
		}
		if i == 0 {
			x.sizes, x.load = [2]int{len(users), len(users)}, load
		}
		x.sizes = [2]int{min(x.sizes[0], len(users)), max(x.sizes[1], len(users))}
		x.load = min(x.load, load)
		x.hasSizes, x.hasLoad = true, true
	}
	return x
}

// plansOf are the plans of a problem in their order.
func plansOf(p api.Problem) [][]int {
	lists := [][]int{{}}
	for step := range p.Who {
		var longer [][]int
		for _, l := range lists {
			for user := range p.Users {
				if p.Fixed[step] == user || p.Who[step]>>user&1 == 1 {
					longer = append(longer, append(slices.Clone(l), user))
				}
			}
		}
		lists = longer
	}
	plans := slices.DeleteFunc(lists, func(l []int) bool { return !solve.Holds(p, l) })
	slices.SortFunc(plans, func(a, b []int) int {
		if solve.Before(a, b) {
			return -1
		}
		return 1
	})
	return plans
}

// check holds all that is told of a problem against the model.
func check(t *testing.T, p api.Problem) {
	t.Helper()
	checkTold(t, p, model(p))
}

// checkTold: is that told of the problem? Nil and empty lists are one.
func checkTold(t *testing.T, p api.Problem, want told) {
	t.Helper()
	if got := tell(p); fmt.Sprint(got) != fmt.Sprint(want) {
		t.Fatalf("%v:\n%v, not\n%v", p, got, want)
	}
}

// nothing is told of a problem that Check does not take.
var nothing = told{}

// u is a list of users.
type u = []int

// who makes words of lists of users.
func who(lists ...[]int) []uint64 {
	var words []uint64
	for _, users := range lists {
		words = append(words, word(users...))
	}
	return words
}

func word(users ...int) uint64 {
	var w uint64
	for _, user := range users {
		w |= 1 << user
	}
	return w
}

func r(kind, k int, steps ...int) api.Rule { return api.Rule{Kind: kind, K: k, Steps: steps} }

// open is a problem none of whose steps is fixed.
func open(users int, who []uint64, rules ...api.Rule) api.Problem {
	return api.Problem{Users: users, Who: who, Fixed: slices.Repeat(u{-1}, len(who)), Rules: rules}
}

// fixed is the problem with these steps fixed.
func fixed(p api.Problem, users ...int) api.Problem {
	p.Fixed = users
	return p
}

// forAll is a problem of n steps which all users may do.
func forAll(n, users int, rules ...api.Rule) api.Problem {
	return open(users, slices.Repeat([]uint64{1<<users - 1}, n), rules...)
}

// steps are those from one up to another, which is not there.
func steps(from, to int) []int {
	var l []int
	for step := from; step < to; step++ {
		l = append(l, step)
	}
	return l
}

// everyRule are all rules between n steps, with a K that tells.
func everyRule(n int) []api.Rule {
	var l []api.Rule
	for set := 1; set < 1<<n; set++ {
		within := slices.DeleteFunc(steps(0, n), func(step int) bool { return set>>step&1 == 0 })
		for kind := api.Apart; kind <= api.Many; kind++ {
			for k := range bits.OnesCount(uint(set)) + 1 {
				if x := r(kind, k, within...); rule.Check(n, x) == api.OK {
					l = append(l, x)
				}
			}
		}
	}
	return l
}

// dice draws numbers that look like chance, and are the same in each run.
type dice uint64

func (d *dice) draw(n int) int {
	*d = *d*6364136223846793005 + 1442695040888963407
	return int(*d>>33) % n
}

// problem is one that Check takes, of n steps.
func (d *dice) problem(n, users, rules int) api.Problem {
	p := api.Problem{Users: users}
	for range n {
		some := uint64(d.draw(1<<20)) | uint64(d.draw(1<<20))
		p.Who = append(p.Who, some&(1<<users-1))
		p.Fixed = append(p.Fixed, max(-1, d.draw(users+9)-9))
	}
	for range rules {
		if x := d.rule(n); rule.Check(n, x) == api.OK {
			p.Rules = append(p.Rules, x)
		}
	}
	return p
}

// rule is one between n steps, or none, where there are too few steps for it.
func (d *dice) rule(n int) api.Rule {
	within := slices.DeleteFunc(steps(0, n), func(int) bool { return d.draw(2) == 0 })
	kind, k := 1+d.draw(5), 0
	if kind > api.Same {
		k = 1 + d.draw(len(within)+1)
	}
	return r(kind, k, within...)
}

// drawn are problems of a few steps and users.
func drawn() []api.Problem {
	var l []api.Problem
	d := dice(13)
	for i := range 3000 {
		l = append(l, d.problem(i%6, d.draw(5), d.draw(4)))
	}
	return l
}

// wrong are problems that Check does not take: for each thing that it asks for one
// in which that alone is wrong.
func wrong() []api.Problem {
	return []api.Problem{
		forAll(13, 3),
		{Users: 65},
		forAll(1, 1, slices.Repeat([]api.Rule{r(api.Few, 1, 0)}, 33)...),
		{Users: -1},
		{Users: 3, Who: who(u{0}, u{1})},
		fixed(forAll(2, 3), -1),
		fixed(forAll(2, 3), -1, -1, -1),
		fixed(forAll(2, 3), -1, -2),
		fixed(forAll(2, 3), 3, -1),
		fixed(forAll(2, 64), 64, -1),
		open(3, who(u{0}, u{1, 3})),
		open(0, who(u{0})),
		forAll(3, 3, r(api.Apart, 0, 1, 3)),
		forAll(3, 3, r(api.Few, 1, 0, 1), r(api.Most, 0, 0, 1)),
		{Users: 3, Rules: make([]api.Rule, 1)},
	}
}
