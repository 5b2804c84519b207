package solve_test

import (
	"slices"
	"testing"

	"provost/api"
	"provost/part"
	"provost/solve"
)

// model is a problem as the chapter's words say it: lists are tried out, all of them.
type model api.Problem

// who makes words of lists of users.
func who(lists ...[]int) []uint64 {
	var words []uint64
	for _, users := range lists {
		words = append(words, word(users...))
	}
	return words
}

// u is a list of users.
type u = []int

func word(numbers ...int) uint64 {
	var w uint64
	for _, i := range numbers {
		w |= 1 << i
	}
	return w
}

func r(kind, k int, steps ...int) api.Rule { return api.Rule{Kind: kind, K: k, Steps: steps} }

// open is a problem none of whose steps is fixed.
func open(users int, who []uint64, rules ...api.Rule) api.Problem {
	return api.Problem{Users: users, Who: who, Fixed: slices.Repeat([]int{-1}, len(who)), Rules: rules}
}

// with is the problem with other steps fixed.
func with(p api.Problem, fixed ...int) api.Problem {
	p.Fixed = fixed
	return p
}

// forAll is a problem of n steps which all users may do.
func forAll(n, users int, rules ...api.Rule) api.Problem {
	return open(users, slices.Repeat([]uint64{1<<users - 1}, n), rules...)
}

// upTo are the steps ahead of n.
func upTo(n int) []int {
	var steps []int
	for i := range n {
		steps = append(steps, i)
	}
	return steps
}

// candidates are the lists in which each step has a user that may do it.
func (m model) candidates() [][]int {
	lists := [][]int{{}}
	for step := range m.Who {
		var longer [][]int
		for _, l := range lists {
			for user := range m.Users {
				if m.allows(step, user) {
					longer = append(longer, append(slices.Clone(l), user))
				}
			}
		}
		lists = longer
	}
	return lists
}

func (m model) allows(step, user int) bool {
	if m.Fixed[step] >= 0 {
		return m.Fixed[step] == user
	}
	return m.Who[step]>>user&1 == 1
}

// keeps: do all rules hold, as the table of chapter 6 says?
func (m model) keeps(plan []int) bool {
	for _, r := range m.Rules {
		times := map[int]int{}
		most := 0
		for _, step := range r.Steps {
			times[plan[step]]++
			most = max(most, times[plan[step]])
		}
		kept := map[int]bool{
			api.Apart: most == 1,
			api.Same:  len(times) == 1,
			api.Most:  most <= r.K,
			api.Few:   len(times) <= r.K,
			api.Many:  len(times) >= r.K,
		}
		if !kept[r.Kind] {
			return false
		}
	}
	return true
}

// first is the plan ahead of which there is none.
func (m model) first() ([]int, bool) {
	var first []int
	is := false
	for _, l := range m.candidates() {
		if m.keeps(l) && (!is || ahead(l, first)) {
			first, is = l, true
		}
	}
	return first, is
}

// ahead: does a come ahead of b, of one length, by the blocks and then by their users?
func ahead(a, b []int) bool {
	first, usersOfA := blocks(a)
	second, usersOfB := blocks(b)
	for i := range first {
		if first[i] != second[i] {
			return first[i] < second[i]
		}
	}
	for i := range usersOfA {
		if usersOfA[i] != usersOfB[i] {
			return usersOfA[i] < usersOfB[i]
		}
	}
	return false
}

// blocks are the pattern of a plan, and the users of its blocks.
func blocks(plan []int) (pattern, users []int) {
	for _, user := range plan {
		block := slices.Index(users, user)
		if block < 0 {
			block = len(users)
			users = append(users, user)
		}
		pattern = append(pattern, block)
	}
	return pattern, users
}

// bound is by how much one call may raise the gauge.
func bound(p api.Problem) uint64 {
	bell, _ := part.Bell(len(p.Who))
	n := uint64(len(p.Who) + 1)
	return 4 * n * n * n * uint64(p.Users+1) * bell
}

func sum(g api.Gauge) uint64 { return g.Nodes + g.Pairs + g.Edges }

// check holds the calls that search against the model, and their work against its bound.
func check(t *testing.T, p api.Problem) {
	t.Helper()
	want, is := model(p).first()
	checkFirst(t, p, want, is)
}

// checkFirst: is that the first plan, if there is one?
func checkFirst(t *testing.T, p api.Problem, want []int, is bool) {
	t.Helper()
	s := solve.New()
	can := s.Can(p)
	before := s.Gauge()
	plan, found := s.Least(p)
	behind := s.Gauge()
	if can != is || found != is || !slices.Equal(plan, want) {
		t.Fatalf("%v: Can %v, Least %v, %v; not %v, %v", p, can, plan, found, want, is)
	}
	if is && !solve.Holds(p, plan) {
		t.Fatalf("%v: %v is no plan", p, plan)
	}
	if sum(before) > bound(p) || sum(behind)-sum(before) > bound(p) || less(behind, before) {
		t.Fatalf("%v: gauge %v, then %v; a call may raise it by %d", p, before, behind, bound(p))
	}
}

// less: is one of the numbers less than it was?
func less(now, was api.Gauge) bool {
	return now.Nodes < was.Nodes || now.Pairs < was.Pairs || now.Edges < was.Edges
}

// dice draws numbers that look like chance, and are the same in each run.
type dice uint64

func (d *dice) draw(n int) int {
	*d = *d*6364136223846793005 + 1442695040888963407
	return int(*d>>33) % n
}

// problem is one that Check takes, of n steps.
func (d *dice) problem(n, users, rules int) api.Problem {
	p := api.Problem{Users: users}
	for range n {
		p.Who = append(p.Who, uint64(d.draw(1<<min(users, 20))|d.draw(1<<min(users, 20))))
		p.Fixed = append(p.Fixed, max(-1, d.draw(users+9)-9))
	}
	for range rules {
		if x := d.rule(n); len(x.Steps) > 0 {
			p.Rules = append(p.Rules, x)
		}
	}
	return p
}

// rule is one between n steps, or one without steps, which is none.
func (d *dice) rule(n int) api.Rule {
	x := api.Rule{Kind: 1 + d.draw(5)}
	for step := range n {
		if d.draw(2) == 0 {
			x.Steps = append(x.Steps, step)
		}
	}
	if x.Kind <= api.Same && len(x.Steps) < 2 || len(x.Steps) == 0 {
		return api.Rule{}
	}
	if x.Kind > api.Same {
		x.K = 1 + d.draw(len(x.Steps))
	}
	return x
}

// drawn are problems of a few steps and users.
func drawn() []api.Problem {
	var l []api.Problem
	d := dice(12)
	for i := range 1500 {
		l = append(l, d.problem(i%7, d.draw(5), d.draw(6)))
	}
	return l
}

// wrong are problems that Check does not take.
func wrong() []api.Problem {
	good := forAll(3, 3)
	return []api.Problem{
		forAll(13, 3),
		{Users: 65},
		{Users: 1 << 40},
		{Users: -1},
		{Users: -1 << 63},
		{Users: -1, Who: make([]uint64, 1), Fixed: u{-1}},
		forAll(3, 3, slices.Repeat([]api.Rule{r(api.Few, 1, 0)}, 33)...),
		with(good, -1, -1),
		with(good, -1, -1, -1, -1),
		with(good),
		with(good, -1, -2, -1),
		with(good, -1, -1, 3),
		with(good, 64, -1, -1),
		with(good, -1<<63, -1, 1<<62),
		open(3, who(u{0}, u{1, 3}, u{2})),
		open(0, who(u{0})),
		open(63, who(u{63})),
		forAll(3, 3, r(api.Apart, 0, 1, 3)),
		forAll(3, 3, r(api.Apart, 0, 0, 1), r(api.Most, 0, 0, 1)),
		forAll(3, 3, r(0, 0, 0, 1)),
		{Users: 3, Rules: []api.Rule{{}}},
	}
}
