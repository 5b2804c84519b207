package core_test

import (
	"math/bits"
	"slices"
	"testing"

	"provost/api"
	"provost/core"
	"provost/rule"
	"provost/solve"
)

// P15.2

// everyRule are all rules between n steps, with a K that tells.
func everyRule(n int) []api.Rule {
	var l []api.Rule
	for set := 1; set < 1<<n; set++ {
		within := slices.DeleteFunc(upTo(n), func(step int) bool { return set>>step&1 == 0 })
		for kind := api.Apart; kind <= api.Many; kind++ {
			for k := range bits.OnesCount(uint(set)) + 1 {
				if x := r(kind, k, within...); rule.Check(n, x) == api.OK {
					l = append(l, x)
				}
			}
		}
	}
	return l
}

// lists are all lists of n numbers from one up to another.
func lists(n, from, to int) [][]int {
	l := [][]int{nil}
	for range n {
		var longer [][]int
		for _, x := range l {
			for i := from; i <= to; i++ {
				longer = append(longer, append(slices.Clone(x), i))
			}
		}
		l = longer
	}
	return l
}

// everyProblem hands over all problems of n steps without rules.
func everyProblem(n, users int, do func(api.Problem)) {
	for _, words := range lists(n, 0, 1<<users-1) {
		for _, fixed := range lists(n, -1, users-1) {
			p := api.Problem{Users: users, Fixed: fixed}
			for _, w := range words {
				p.Who = append(p.Who, uint64(w))
			}
			do(p)
		}
	}
}

func TestWhyOfEverySmallProblem(t *testing.T) {
	for n := range 4 {
		for users := range 3 {
			everyProblem(n, users, func(p api.Problem) {
				checkWhy(t, p, tryOut)
				for _, x := range everyRule(n) {
					p.Rules = []api.Rule{x}
					checkWhy(t, p, tryOut)
				}
			})
		}
	}
}

func TestWhyOfEveryTwoRules(t *testing.T) {
	for users := range 3 {
		everyProblem(2, users, func(p api.Problem) {
			for _, a := range everyRule(2) {
				for _, b := range everyRule(2) {
					p.Rules = []api.Rule{a, b}
					checkWhy(t, p, tryOut)
				}
			}
		})
	}
}

func TestWhyOfDrawnProblems(t *testing.T) {
	count := 0
	for _, p := range drawn() {
		if checkWhy(t, p, tryOut) {
			count++
		}
	}
	if count < 1000 || count > 2900 {
		t.Error("problems without a plan:", count)
	}
}

func TestWhyOfGreatProblems(t *testing.T) {
	s := solve.New()
	count := 0
	for _, p := range drawnGreat() {
		if checkWhy(t, p, s.Can) {
			count++
		}
	}
	if count < 100 || count > 590 {
		t.Error("problems without a plan:", count)
	}
}

// With no users each thing is spared.
func TestWhyWithoutUsers(t *testing.T) {
	for n := 1; n <= 12; n++ {
		checkTold(t, forAll(n, 0), nil, nil, true)
		checkTold(t, forAll(n, 0, r(api.Few, 1, 0), r(api.Many, n, upTo(n)...)), nil, nil, true)
	}
	checkTold(t, api.Problem{}, nil, nil, false)
	checkTold(t, api.Problem{Users: 64}, nil, nil, false)
}

// Long reasons, in which hardly anything can be spared.
func TestWhyOfManyThings(t *testing.T) {
	var chain []api.Rule
	for step := range 11 {
		chain = append(chain, r(api.Same, 0, step, step+1))
	}
	checkTold(t, forAll(12, 64, append(chain, r(api.Apart, 0, 0, 11))...), upTo(12), nil, true)
	ends := forAll(12, 64, chain...)
	ends.Fixed[0], ends.Fixed[11] = 62, 63
	checkTold(t, ends, upTo(11), u{0, 11}, true)
	// Each eleven of the steps have one user who may do them all, and all twelve have none.
	none := forAll(12, 12, chain...)
	for step := range none.Who {
		none.Who[step] &^= 1 << step
	}
	checkTold(t, none, upTo(11), upTo(12), true)
	eleven := open(64, slices.Repeat(who(upTo(11)), 12), r(api.Apart, 0, upTo(12)...))
	checkTold(t, eleven, u{0}, upTo(12), true)
	idle := []api.Rule{r(api.Few, 12, 9, 10, 11), r(api.Most, 1, 9), r(api.Many, 1, 10), r(api.Same, 0, 10, 11)}
	seven := open(64, slices.Repeat(who(upTo(7)), 12), append(pairs(8), idle...)...)
	checkTold(t, seven, upTo(28), upTo(8), true)
}

// pairs are the rules that keep each two of n steps apart.
func pairs(n int) []api.Rule {
	var l []api.Rule
	for a := range n {
		for b := range a {
			l = append(l, r(api.Apart, 0, b, a))
		}
	}
	return l
}

// One thing alone is left, wherever it stands.
func TestWhyOfOneThing(t *testing.T) {
	for n := 1; n <= 12; n++ {
		for step := range n {
			p := forAll(n, 5)
			p.Who[step] = 0
			checkTold(t, p, nil, u{step}, true)
		}
	}
	for count := 1; count <= 32; count++ {
		for place := range count {
			p := forAll(3, 2, slices.Repeat([]api.Rule{r(api.Few, 3, 0, 1, 2)}, count)...)
			p.Rules[place] = r(api.Apart, 0, 0, 1, 2)
			checkTold(t, p, u{place}, nil, true)
		}
	}
}

// Two rules that cannot be kept together, wherever they stand; and of several such
// rules the last ones.
func TestWhyOfTwoRules(t *testing.T) {
	apart, same := r(api.Apart, 0, 0, 1), r(api.Same, 0, 0, 1)
	for count := 2; count <= 32; count++ {
		for a := range count {
			for b := range a {
				p := forAll(2, 2, slices.Repeat([]api.Rule{r(api.Few, 2, 0, 1)}, count)...)
				p.Rules[a], p.Rules[b] = apart, same
				checkTold(t, p, u{b, a}, nil, true)
			}
		}
	}
	d := dice(7)
	for range 200 {
		p := forAll(2, 2)
		for range 32 {
			p.Rules = append(p.Rules, []api.Rule{apart, same}[d.draw(2)])
		}
		lastApart, lastSame := 0, 0
		for place, x := range p.Rules {
			if x.Kind == api.Apart {
				lastApart = place
			} else {
				lastSame = place
			}
		}
		checkTold(t, p, u{min(lastApart, lastSame), max(lastApart, lastSame)}, nil, true)
	}
}

// Rules are spared ahead of steps: what either of them would be reason enough for
// is told as steps.
func TestWhySparesRulesFirst(t *testing.T) {
	p := open(2, who(u{}, u{0, 1}), r(api.Apart, 0, 0, 1), r(api.Same, 0, 0, 1))
	checkTold(t, p, nil, u{0}, true)
	checkTold(t, open(2, who(u{0}, u{1}, u{}), r(api.Same, 0, 0, 1)), nil, u{2}, true)
}

// A search that takes long, of a problem whose reason stands at the end.
func TestWhyOfALongSearch(t *testing.T) {
	p := forAll(12, 64, r(api.Few, 1, 10, 11), r(api.Few, 6, upTo(12)...), r(api.Many, 2, 10, 11), r(api.Many, 7, upTo(12)...))
	for step := range 10 {
		p.Who[step] = 1<<63 - 1
	}
	checkTold(t, p, u{1, 3}, nil, true)
}

func TestWhyOfWrongProblems(t *testing.T) {
	for _, p := range wrong() {
		if rules, steps, stuck := core.Why(p); len(rules) > 0 || len(steps) > 0 || stuck {
			t.Errorf("%v: %v, %v, %v", p, rules, steps, stuck)
		}
	}
}
