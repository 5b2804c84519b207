package hardy_test

import (
	"math"
	"slices"
	"testing"

	"provost/api"
	"provost/hardy"
	"provost/solve"
)

// P16.2, P16.3, P16.4

// everyProblem hands over all problems of n steps without rules.
func everyProblem(n, users int, do func(api.Problem)) {
	var add func(p api.Problem)
	add = func(p api.Problem) {
		if len(p.Who) == n {
			do(p)
			return
		}
		for may := range uint64(1) << users {
			for owner := -1; owner < users; owner++ {
				q := p
				q.Who, q.Fixed = append(slices.Clone(p.Who), may), append(slices.Clone(p.Fixed), owner)
				add(q)
			}
		}
	}
	add(api.Problem{Users: users})
}

func TestEverySmallProblem(t *testing.T) {
	for n := range 3 {
		for users := range 4 {
			everyProblem(n, users, func(p api.Problem) {
				check(t, p, tryOut)
				for _, x := range everyRule(n) {
					p.Rules = []api.Rule{x}
					check(t, p, tryOut)
				}
			})
		}
	}
}

func TestDrawnProblems(t *testing.T) {
	grades := map[int]int{}
	for _, p := range drawn() {
		grades[check(t, p, tryOut)]++
	}
	for grade := -1; grade <= 3; grade++ {
		if grades[grade] < 50 {
			t.Error("problems of the grades:", grades)
		}
	}
}

func TestGreatProblems(t *testing.T) {
	s := solve.New()
	grades := map[int]int{}
	for _, p := range drawnGreat() {
		grades[check(t, p, s.Can)]++
	}
	for grade := -1; grade <= 3; grade++ {
		if grades[grade] < 5 {
			t.Error("problems of the grades:", grades)
		}
	}
}

// The set whose list comes first is told, not that whose word is least.
func TestWeakIsFirstByItsList(t *testing.T) {
	checkTold(t, open(5, who(u{1, 2}, u{0, 3})), 0, [4][]int{nil, nil, {0, 3}, {0, 1, 2}}, 1)
	checkTold(t, open(6, who(u{2, 3, 4}, u{1, 4, 5}, u{0, 5})), 0, [4][]int{nil, nil, {0, 5}, {0, 1, 5}}, 1)
	checkTold(t, open(64, who(u{1, 2, 3}, u{0, 62, 63})), 0, [4][]int{nil, nil, nil, {0, 62, 63}}, 2)
}

// A weak set is found wherever it stands among the users.
func TestWeakWhereverItStands(t *testing.T) {
	for _, lost := range append(sets(9, 3), u{0, 1, 63}, u{0, 62, 63}, u{61, 62, 63}, u{0, 31, 63}) {
		for many := 1; many <= 3; many++ {
			checkFirst(t, lost[:many])
		}
	}
	checkFirst(t, u{63})
	checkFirst(t, u{62, 63})
}

// checkFirst: is the loss of these, of 64 users, told as the first that is not
// borne?
func checkFirst(t *testing.T, lost []int) {
	t.Helper()
	p := open(64, who(lost, upTo(64)), r(api.Few, 2, 0, 1))
	if l, is := hardy.Weak(p, len(lost)); !slices.Equal(l, lost) || !is {
		t.Errorf("%v: Weak: %v, %v", lost, l, is)
	}
	if grade := hardy.Grade(p); grade != len(lost)-1 {
		t.Errorf("%v: Grade: %d", lost, grade)
	}
	want := uint64(0)
	if len(lost) == 1 {
		want = word(lost...)
	}
	if needed := hardy.Needed(p); needed != want {
		t.Errorf("%v: Needed: %b", lost, needed)
	}
}

// Where there is no plan, the first users are told.
func TestWeakWithoutAPlan(t *testing.T) {
	for _, p := range []api.Problem{
		open(64, who(u{0, 1}, u{})),
		forAll(2, 64, r(api.Apart, 0, 0, 1), r(api.Same, 0, 0, 1)),
		fixed(forAll(2, 64, r(api.Apart, 0, 0, 1)), 5, 5),
	} {
		checkTold(t, p, 0, [4][]int{{}, {0}, {0, 1}, {0, 1, 2}}, -1)
	}
}

// A user that is lost keeps the steps that are fixed, and does no others.
func TestWhoeverHasFixedSteps(t *testing.T) {
	checkTold(t, fixed(open(2, who(u{}, u{})), 0, 1), 0, [4][]int{}, 3)
	checkTold(t, fixed(open(2, who(u{}, u{0})), 0, -1), word(0), [4][]int{nil, {0}, {0, 1}, nil}, 0)
	same, apart := r(api.Same, 0, 0, 1), r(api.Apart, 0, 0, 1)
	checkTold(t, fixed(forAll(2, 4, same), 2, -1), word(2), [4][]int{nil, {2}, {0, 2}, {0, 1, 2}}, 0)
	checkTold(t, fixed(forAll(2, 4, same), 2, 2), 0, [4][]int{}, 3)
	checkTold(t, fixed(forAll(2, 4, apart), -1, 2), 0, [4][]int{nil, nil, nil, {0, 1, 3}}, 2)
}

func TestManyUsersAreNeeded(t *testing.T) {
	var each []uint64
	var want uint64
	for step := range 12 {
		each = append(each, word(5*step+8))
		want |= word(5*step + 8)
	}
	checkTold(t, open(64, each), want, [4][]int{nil, {8}, {0, 8}, {0, 1, 8}}, 0)
	all := r(api.Apart, 0, upTo(12)...)
	checkTold(t, forAll(12, 12, all), 1<<12-1, [4][]int{nil, {0}, {0, 1}, {0, 1, 2}}, 0)
	checkTold(t, forAll(12, 13, all), 0, [4][]int{nil, nil, {0, 1}, {0, 1, 2}}, 1)
	checkTold(t, forAll(12, 14, all), 0, [4][]int{nil, nil, nil, {0, 1, 2}}, 2)
	checkTold(t, forAll(12, 15, all), 0, [4][]int{}, 3)
	checkTold(t, forAll(12, 11, all), 0, [4][]int{{}, {0}, {0, 1}, {0, 1, 2}}, -1)
}

// At the limits: twelve steps, 64 users and 32 rules, and as many plans as can be
// in one another's way.
func TestTheGreatestProblems(t *testing.T) {
	own := open(64, nil)
	for step := range 12 {
		own.Who, own.Fixed = append(own.Who, word(4*step, 4*step+1, 4*step+2, 4*step+3)), append(own.Fixed, -1)
	}
	checkTold(t, own, 0, [4][]int{}, 3)
	own.Who[11] &^= word(47)
	checkTold(t, own, 0, [4][]int{nil, nil, nil, {44, 45, 46}}, 2)
	own.Rules = slices.Repeat([]api.Rule{r(api.Many, 12, upTo(12)...)}, 32)
	checkTold(t, own, 0, [4][]int{nil, nil, nil, {44, 45, 46}}, 2)
	checkTold(t, forAll(12, 64, own.Rules...), 0, [4][]int{}, 3)
}

// Steps that only the last ones tie to users: plans are to be found soon all the
// same.
func TestPlansThatTheLastStepsDecide(t *testing.T) {
	p := forAll(12, 64, r(api.Same, 0, 0, 9), r(api.Same, 0, 1, 10), r(api.Same, 0, 2, 11), r(api.Many, 9, upTo(12)...))
	for step := 3; step < 9; step++ {
		p.Who[step] = 1<<52 - 1<<16
	}
	p.Who[9], p.Who[10], p.Who[11] = 0b1111, 0b1111<<4, 0b1111<<8
	checkTold(t, p, 0, [4][]int{}, 3)
	p.Who[11] = 0b111 << 8
	checkTold(t, p, 0, [4][]int{nil, nil, nil, {8, 9, 10}}, 2)
}

func TestWeakOfWrongNumbers(t *testing.T) {
	for _, p := range []api.Problem{first(), open(9, who(u{})), forAll(2, 64), {}} {
		for _, many := range []int{-1, -2, 4, 5, 64, 65, math.MinInt, math.MaxInt} {
			if l, is := hardy.Weak(p, many); len(l) > 0 || is {
				t.Errorf("%v: Weak(p, %d): %v, %v", p, many, l, is)
			}
		}
	}
}

func TestWrongProblems(t *testing.T) {
	for _, p := range wrong() {
		checkTold(t, p, 0, [4][]int{}, -1)
		for _, many := range []int{-1, 4} {
			if l, is := hardy.Weak(p, many); len(l) > 0 || is {
				t.Errorf("%v: Weak(p, %d): %v, %v", p, many, l, is)
			}
		}
	}
}
