package plan_test

import (
	"fmt"
	"slices"
	"testing"

	"provost/api"
	"provost/plan"
	"provost/solve"
)

// who makes words of lists of users.
func who(lists ...[]int) []uint64 {
	var words []uint64
	for _, users := range lists {
		var word uint64
		for _, user := range users {
			word |= 1 << user
		}
		words = append(words, word)
	}
	return words
}

// u is a list of users.
type u = []int

func r(kind, k int, steps ...int) api.Rule { return api.Rule{Kind: kind, K: k, Steps: steps} }

// open is a problem none of whose steps is fixed.
func open(users int, who []uint64, rules ...api.Rule) api.Problem {
	return api.Problem{Users: users, Who: who, Fixed: slices.Repeat([]int{-1}, len(who)), Rules: rules}
}

// fixed is the problem with other steps fixed.
func fixed(p api.Problem, users ...int) api.Problem {
	p.Fixed = users
	return p
}

// forAll is a problem of n steps which all users may do.
func forAll(n, users int, rules ...api.Rule) api.Problem {
	return open(users, slices.Repeat([]uint64{1<<users - 1}, n), rules...)
}

// upTo are the numbers ahead of n.
func upTo(n int) []int {
	var l []int
	for i := range n {
		l = append(l, i)
	}
	return l
}

// keeps: do the labels of the rule's steps stand as the table of chapter 6 asks?
func keeps(x api.Rule, labels []int) bool {
	times := map[int]int{}
	most := 0
	for _, step := range x.Steps {
		times[labels[step]]++
		most = max(most, times[labels[step]])
	}
	return map[int]bool{
		api.Apart: most == 1,
		api.Same:  len(times) == 1,
		api.Most:  most <= x.K,
		api.Few:   len(times) <= x.K,
		api.Many:  len(times) >= x.K,
	}[x.Kind]
}

// flaws are those that the chapter's words tell, of a problem that Check takes:
// for each step all that apply, of which the first one stands.
func flaws(p api.Problem, l []int) []api.Flaw {
	if len(l) != len(p.Who) {
		return []api.Flaw{{Kind: api.FlawLength}}
	}
	var told []api.Flaw
	for step, user := range l {
		var apply []int
		if !slices.Contains(upTo(p.Users), user) {
			apply = append(apply, api.FlawUser)
		}
		if p.Fixed[step] != -1 && p.Fixed[step] != user {
			apply = append(apply, api.FlawFixed)
		}
		has := slices.ContainsFunc(upTo(p.Users), func(i int) bool { return i == user && p.Who[step]>>i%2 == 1 })
		if p.Fixed[step] == -1 && !has {
			apply = append(apply, api.FlawWho)
		}
		if len(apply) > 0 {
			told = append(told, api.Flaw{Kind: apply[0], Step: step})
		}
	}
	for place, x := range p.Rules {
		if !keeps(x, l) {
			told = append(told, api.Flaw{Kind: api.FlawRule, Rule: place})
		}
	}
	return told
}

// bytesOf are a certificate's, as the chapter's table lists them.
func bytesOf(p api.Problem, l []int) []byte {
	raw := []byte{80, 67, byte(p.Users), byte(len(p.Who))}
	for step, word := range p.Who {
		for shift := 56; shift >= 0; shift -= 8 {
			raw = append(raw, byte(word>>shift))
		}
		raw = append(raw, byte(p.Fixed[step]+1), byte(l[step]))
	}
	raw = append(raw, byte(len(p.Rules)))
	for _, x := range p.Rules {
		raw = append(raw, byte(x.Kind), byte(x.K>>24), byte(x.K>>16), byte(x.K>>8), byte(x.K), byte(len(x.Steps)))
		for _, step := range x.Steps {
			raw = append(raw, byte(step))
		}
	}
	return raw
}

// show is a problem with nil and empty lists as one.
func show(p api.Problem, l []int) string { return fmt.Sprint(p, l) }

// dice draws numbers that look like chance, and are the same in each run.
type dice uint64

func (d *dice) draw(n int) int {
	*d = *d*6364136223846793005 + 1442695040888963407
	return int(*d>>33) % n
}

// problem is one that Check takes, of n steps.
func (d *dice) problem(n, users, rules int) api.Problem {
	p := api.Problem{Users: users}
	for range n {
		p.Who = append(p.Who, d.word(users)|d.word(users))
		p.Fixed = append(p.Fixed, max(-1, d.draw(users+9)-9))
	}
	for range rules {
		if x := d.rule(n); len(x.Steps) > 0 {
			p.Rules = append(p.Rules, x)
		}
	}
	return p
}

func (d *dice) word(users int) uint64 {
	var w uint64
	for user := range users {
		w |= uint64(d.draw(2)) << user
	}
	return w
}

// rule is one between n steps, or one without steps, which is none.
func (d *dice) rule(n int) api.Rule {
	x := api.Rule{Kind: 1 + d.draw(5)}
	for step := range n {
		if d.draw(2) == 0 {
			x.Steps = append(x.Steps, step)
		}
	}
	if x.Kind <= api.Same && len(x.Steps) < 2 || len(x.Steps) == 0 {
		return api.Rule{}
	}
	if x.Kind > api.Same {
		x.K = 1 + d.draw(len(x.Steps))
	}
	if x.Kind == api.Most || x.Kind == api.Few {
		x.K *= []int{1, 1, 1, 257, 70001, 80000001}[d.draw(6)]
	}
	return x
}

// drawn are problems of up to twelve steps and 64 users.
func drawn() []api.Problem {
	var l []api.Problem
	d := dice(14)
	for i := range 1500 {
		users := d.draw(6)
		if i%5 == 0 {
			users = d.draw(65)
		}
		l = append(l, d.problem(i%13, users, d.draw(5)))
	}
	return l
}

// soluble are those of them that have plans, with the first one.
func soluble(t *testing.T) (problems []api.Problem, plans [][]int) {
	t.Helper()
	s := solve.New()
	for _, p := range drawn() {
		if l, is := s.Least(p); is {
			problems, plans = append(problems, p), append(plans, l)
		}
	}
	if len(problems) < 400 {
		t.Fatal("problems with plans:", len(problems))
	}
	return problems, plans
}

// wrong are problems that Check does not take.
func wrong() []api.Problem {
	good := forAll(3, 3)
	return []api.Problem{
		forAll(13, 3),
		{Users: 65},
		{Users: 256},
		{Users: 1 << 40},
		{Users: -1},
		{Users: -1 << 63},
		forAll(3, 3, slices.Repeat([]api.Rule{r(api.Few, 1, 0)}, 33)...),
		fixed(good, -1, -1),
		fixed(good, -1, -1, -1, -1),
		fixed(good),
		fixed(good, -1, -2, -1),
		fixed(good, -1, -1, 3),
		open(3, who(u{0}, u{1, 3}, u{2})),
		open(0, who(u{0})),
		forAll(3, 3, r(api.Apart, 0, 1, 3)),
		forAll(3, 3, r(api.Apart, 0, 0, 1), r(api.Most, 0, 0, 1)),
		forAll(3, 3, r(api.Most, 1000000000, 0, 1)),
		forAll(3, 3, r(0, 0, 0, 1)),
		{Users: 3, Rules: []api.Rule{{}}},
	}
}

// checkFlaws holds Flaws against the model, of a problem that Check takes.
func checkFlaws(t *testing.T, p api.Problem, l []int) {
	t.Helper()
	want := flaws(p, l)
	got, err := plan.Flaws(p, l)
	if err != api.OK || !slices.Equal(got, want) {
		t.Fatalf("%v: Flaws(%v): %v, %v; not %v", p, l, got, err, want)
	}
	if solve.Holds(p, l) != (len(got) == 0) {
		t.Fatalf("%v: %v has the flaws %v; a plan: %v", p, l, got, solve.Holds(p, l))
	}
}

// checkRead: is the answer that one, and is nothing told beside an error?
func checkRead(t *testing.T, raw []byte, want api.Errno) {
	t.Helper()
	p, l, err := plan.Read(raw)
	if err != want {
		t.Fatalf("Read(%v): %v, not %v", raw, err, want)
	}
	if err != api.OK && show(p, l) != show(api.Problem{}, nil) {
		t.Fatalf("Read(%v): %v, %v beside %v", raw, p, l, err)
	}
}
