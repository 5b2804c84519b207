package hardy_test

import (
	"fmt"
	"math/bits"
	"slices"
	"testing"

	"provost/api"
	"provost/hardy"
	"provost/rule"
)

// u is a list of users or of steps.
type u = []int

// word is the word of bits of some users.
func word(users ...int) uint64 {
	var w uint64
	for _, user := range users {
		w |= 1 << user
	}
	return w
}

// who makes words of lists of users.
func who(lists ...[]int) []uint64 {
	var words []uint64
	for _, users := range lists {
		words = append(words, word(users...))
	}
	return words
}

func r(kind, k int, steps ...int) api.Rule { return api.Rule{Kind: kind, K: k, Steps: steps} }

// open is a problem none of whose steps is fixed.
func open(users int, who []uint64, rules ...api.Rule) api.Problem {
	return api.Problem{Users: users, Who: who, Fixed: slices.Repeat(u{-1}, len(who)), Rules: rules}
}

// fixed is the problem with other steps fixed.
func fixed(p api.Problem, users ...int) api.Problem {
	p.Fixed = users
	return p
}

// forAll is a problem of n steps which all users may do.
func forAll(n, users int, rules ...api.Rule) api.Problem {
	return open(users, slices.Repeat([]uint64{1<<users - 1}, n), rules...)
}

// upTo are the numbers ahead of n.
func upTo(n int) []int {
	var l []int
	for i := range n {
		l = append(l, i)
	}
	return l
}

// show is a problem with nil and empty lists as one.
func show(p api.Problem) string { return fmt.Sprint(p) }

// lose is the problem that the chapter's words ask for.
func lose(p api.Problem, users uint64) api.Problem {
	q := p
	q.Who = nil
	for _, may := range p.Who {
		var left uint64
		for user := range p.Users {
			if may>>user&1 == 1 && users>>user&1 == 0 {
				left |= 1 << user
			}
		}
		q.Who = append(q.Who, left)
	}
	return q
}

// sets are all sets of just so many users, in the order of their lists.
func sets(users, many int) [][]int {
	var l [][]int
	var add func(list []int, from int)
	add = func(list []int, from int) {
		if len(list) == many {
			l = append(l, list)
			return
		}
		for user := from; user < users; user++ {
			add(append(slices.Clone(list), user), user+1)
		}
	}
	add(nil, 0)
	slices.SortStableFunc(l, slices.Compare[[]int])
	return l
}

// told is what the calls answer of one problem.
type told struct {
	needed uint64
	weak   [4][]int
	is     [4]bool
	grade  int
}

// tell asks hardy.
func tell(p api.Problem) told {
	x := told{needed: hardy.Needed(p), grade: hardy.Grade(p)}
	for many := range x.weak {
		x.weak[many], x.is[many] = hardy.Weak(p, many)
	}
	return x
}

// model is what the chapter's words ask for, of a problem that Check takes; can
// says whether a problem has a plan.
func model(p api.Problem, can func(api.Problem) bool) told {
	x := told{grade: 3}
	for many := range x.weak {
		all := sets(p.Users, many)
		if place := slices.IndexFunc(all, func(lost []int) bool { return !can(lose(p, word(lost...))) }); place >= 0 {
			x.weak[many], x.is[many] = all[place], true
			x.grade = min(x.grade, many-1)
		}
	}
	for user := range p.Users {
		if !x.is[0] && !can(lose(p, word(user))) {
			x.needed |= 1 << user
		}
	}
	return x
}

// check holds what hardy tells against a model, and hands out the grade.
func check(t *testing.T, p api.Problem, can func(api.Problem) bool) int {
	t.Helper()
	got, want := tell(p), model(p, can)
	if fmt.Sprint(got) != fmt.Sprint(want) {
		t.Fatalf("%v: %v, not %v", p, got, want)
	}
	return got.grade
}

// checkTold: is that what hardy tells? A list nil stands for none and false, an
// empty one for none and true.
func checkTold(t *testing.T, p api.Problem, needed uint64, weak [4][]int, grade int) {
	t.Helper()
	want := told{needed: needed, weak: weak, grade: grade}
	for many, l := range weak {
		want.is[many] = l != nil
	}
	if got := tell(p); fmt.Sprint(got) != fmt.Sprint(want) {
		t.Fatalf("%v: %v, not %v", p, got, want)
	}
}

// tryOut: is there a plan among all lists of users?
func tryOut(p api.Problem) bool { return tryBehind(p, nil) }

func tryBehind(p api.Problem, list []int) bool {
	step := len(list)
	if step == len(p.Who) {
		return !slices.ContainsFunc(p.Rules, func(x api.Rule) bool { return !keeps(x, list) })
	}
	for user := range p.Users {
		mayDo := p.Fixed[step] == user || p.Fixed[step] == -1 && p.Who[step]>>user%2 == 1
		if mayDo && tryBehind(p, append(slices.Clone(list), user)) {
			return true
		}
	}
	return false
}

// keeps: do the labels of the rule's steps stand as the table of chapter 6 asks?
func keeps(x api.Rule, labels []int) bool {
	times := map[int]int{}
	most := 0
	for _, step := range x.Steps {
		times[labels[step]]++
		most = max(most, times[labels[step]])
	}
	return map[int]bool{
		api.Apart: most == 1,
		api.Same:  len(times) == 1,
		api.Most:  most <= x.K,
		api.Few:   len(times) <= x.K,
		api.Many:  len(times) >= x.K,
	}[x.Kind]
}

// dice draws numbers that look like chance, and are the same in each run.
type dice uint64

func (d *dice) draw(n int) int {
	*d = *d*6364136223846793005 + 1442695040888963407
	return int(*d>>33) % n
}

// some are numbers ahead of n, each one there or not.
func (d *dice) some(n int) []int {
	return slices.DeleteFunc(upTo(n), func(int) bool { return d.draw(2) == 0 })
}

// problem is one that Check takes, of n steps and so many rules or fewer; each
// step is fixed once in so many times.
func (d *dice) problem(n, users, rules, seldom int) api.Problem {
	p := api.Problem{Users: users}
	for range n {
		p.Who = append(p.Who, word(d.some(users)...))
		p.Fixed = append(p.Fixed, -1)
		if users > 0 && d.draw(seldom) == 0 {
			p.Fixed[len(p.Fixed)-1] = d.draw(users)
		}
	}
	for range rules {
		if x := d.rule(n); rule.Check(n, x) == api.OK {
			p.Rules = append(p.Rules, x)
		}
	}
	return p
}

// rule is one between some of n steps, or none, where there are too few steps.
func (d *dice) rule(n int) api.Rule {
	within, kind, k := d.some(n), 1+d.draw(5), 0
	if kind > api.Same {
		k = 1 + d.draw(len(within)+1)
	} else if len(within) > 3 {
		within = within[:3]
	}
	return r(kind, k, within...)
}

// drawn are problems of a few steps and users.
func drawn() []api.Problem {
	var l []api.Problem
	d := dice(16)
	for i := range 2000 {
		l = append(l, d.problem(i%6, d.draw(7), d.draw(4), 5))
	}
	return l
}

// drawnGreat are problems of many steps, users and rules.
func drawnGreat() []api.Problem {
	var l []api.Problem
	d := dice(61)
	for i := range 150 {
		l = append(l, d.problem(7+i%6, 4+d.draw(13), d.draw(9), 8))
	}
	return l
}

// everyRule are all rules between n steps, with a K that tells.
func everyRule(n int) []api.Rule {
	var l []api.Rule
	for set := 1; set < 1<<n; set++ {
		within := slices.DeleteFunc(upTo(n), func(step int) bool { return set>>step&1 == 0 })
		for kind := api.Apart; kind <= api.Many; kind++ {
			for k := range bits.OnesCount(uint(set)) + 1 {
				if x := r(kind, k, within...); rule.Check(n, x) == api.OK {
					l = append(l, x)
				}
			}
		}
	}
	return l
}

// wrong are problems that Check does not take.
func wrong() []api.Problem {
	good := forAll(3, 3)
	return []api.Problem{
		forAll(13, 3),
		{Users: 1, Who: make([]uint64, 13)},
		{Users: 65},
		{Users: -1},
		{Users: -1 << 63},
		{Users: 1<<63 - 1},
		forAll(3, 3, slices.Repeat([]api.Rule{r(api.Few, 1, 0)}, 33)...),
		fixed(good),
		fixed(good, -1, -1),
		fixed(good, -1, -1, -1, -1),
		fixed(good, -1, -2, -1),
		fixed(good, -1, -1, 3),
		open(3, who(u{}, u{1, 3}, u{2})),
		open(0, who(u{0})),
		forAll(3, 3, r(api.Apart, 0, 1, 3)),
		forAll(3, 3, r(api.Apart, 0, 0, 1), r(api.Most, 0, 0, 1)),
		forAll(3, 3, r(0, 0, 0, 1)),
		forAll(2, 0, r(api.Apart, 0, 1, 0)),
		{Users: 3, Rules: make([]api.Rule, 1)},
		{Who: make([]uint64, 3)},
		{Fixed: make([]int, 3)},
	}
}
