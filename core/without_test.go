package core_test

import (
	"math"
	"slices"
	"testing"

	"provost/api"
	"provost/core"
	"provost/solve"
)

// P15.1

// several is a problem of four rules and three steps, of which one is fixed.
func several() api.Problem {
	p := open(3, who(u{0}, u{1, 2}, u{}), r(api.Apart, 0, 0, 1), r(api.Most, 2, 0, 1, 2), r(api.Few, 3, 1), r(api.Apart, 0, 0, 1))
	return fixed(p, 2, -1, -1)
}

// sets are all lists of numbers ahead of n, rising.
func sets(n int) [][]int {
	l := [][]int{nil}
	for i := range n {
		for _, x := range l {
			l = append(l, append(slices.Clone(x), i))
		}
	}
	return l
}

func TestWithoutEverySet(t *testing.T) {
	for _, rules := range sets(4) {
		for _, steps := range sets(3) {
			checkWithout(t, several(), rules, steps, api.OK)
		}
	}
}

// The numbers need not rise, and may stand twice.
func TestWithoutListsThatDoNotRise(t *testing.T) {
	for _, x := range [][2]u{{{3, 0}, nil}, {{2, 2, 2}, {1, 1}}, {{1, 3, 1}, {2, 0, 2}}, {{3, 2, 1, 0}, {2, 1, 0}}, {{0, 0}, {0, 0, 1}}} {
		checkWithout(t, several(), x[0], x[1], api.OK)
	}
	checkWithout(t, several(), slices.Repeat(u{3, 1}, 5000), slices.Repeat(u{2}, 5000), api.OK)
}

// The rules that are left keep their order, and what they say.
func TestWithoutKeepsTheOthers(t *testing.T) {
	q, err := core.Without(several(), u{1}, u{0})
	want := open(3, who(u{0, 1, 2}, u{1, 2}, u{}), r(api.Apart, 0, 0, 1), r(api.Few, 3, 1), r(api.Apart, 0, 0, 1))
	if err != api.OK || show(q) != show(want) {
		t.Errorf("%v, %v; not %v", q, err, want)
	}
}

// A step that is spared is everybody's, however many there are.
func TestWithoutOfEveryNumberOfUsers(t *testing.T) {
	for users := range 65 {
		p := open(users, make([]uint64, 2))
		if users > 0 {
			p.Fixed[0] = users - 1
		}
		for _, steps := range sets(2) {
			checkWithout(t, p, nil, steps, api.OK)
		}
	}
	q, _ := core.Without(fixed(open(64, who(u{})), 63), nil, u{0})
	if q.Who[0] != math.MaxUint64 || q.Fixed[0] != -1 {
		t.Error("of 64 users:", q)
	}
}

func TestWithoutAtTheLimits(t *testing.T) {
	p := open(64, make([]uint64, 12), slices.Repeat([]api.Rule{r(api.Few, 1, 0)}, 31)...)
	p.Rules = append(p.Rules, r(api.Many, 12, upTo(12)...))
	checkWithout(t, p, u{0}, u{11}, api.OK)
	checkWithout(t, p, u{31}, u{0}, api.OK)
	checkWithout(t, p, upTo(32), upTo(12), api.OK)
	checkWithout(t, p, upTo(31), upTo(11), api.OK)
	checkWithout(t, p, upTo(33), nil, api.ErrArg)
	checkWithout(t, p, nil, upTo(13), api.ErrArg)
	checkWithout(t, api.Problem{}, nil, nil, api.OK)
	checkWithout(t, api.Problem{Users: 64}, u{}, u{}, api.OK)
	checkWithout(t, api.Problem{}, u{0}, nil, api.ErrArg)
	checkWithout(t, api.Problem{}, nil, u{0}, api.ErrArg)
}

func TestWithoutOfDrawnProblems(t *testing.T) {
	d := dice(3)
	for _, p := range append(drawn(), drawnGreat()...) {
		rules, steps := d.some(len(p.Rules)), d.some(len(p.Who))
		checkWithout(t, p, rules, steps, api.OK)
		slices.Reverse(rules)
		checkWithout(t, p, append(rules, rules...), append(steps, steps...), api.OK)
		if q, _ := core.Without(p, rules, steps); solve.Check(q) != api.OK {
			t.Fatalf("%v: Without(%v, %v) is no problem: %v", p, rules, steps, q)
		}
	}
}

// A number that is no place is refused, wherever it stands.
func TestWithoutOfWrongPlaces(t *testing.T) {
	for _, wrong := range []int{-1, 4, 5, 32, math.MinInt, math.MaxInt} {
		for _, rules := range []u{{wrong}, {0, wrong}, {wrong, 0}, {3, wrong, 3}} {
			checkWithout(t, several(), rules, nil, api.ErrArg)
			checkWithout(t, several(), rules, u{0, 1}, api.ErrArg)
		}
	}
	for _, wrong := range []int{-1, 3, 4, 12, math.MinInt, math.MaxInt} {
		for _, steps := range []u{{wrong}, {0, wrong}, {wrong, 0}, {2, wrong, 2}} {
			checkWithout(t, several(), nil, steps, api.ErrArg)
			checkWithout(t, several(), u{0, 1}, steps, api.ErrArg)
			checkWithout(t, several(), u{9}, steps, api.ErrArg)
		}
	}
}

// What Check refuses goes ahead of places that are none.
func TestWithoutOfWrongProblems(t *testing.T) {
	for _, p := range wrong() {
		for _, l := range []u{nil, {0}, {-1}, {99}} {
			checkWithout(t, p, l, nil, solve.Check(p))
			checkWithout(t, p, nil, l, solve.Check(p))
			checkWithout(t, p, l, l, solve.Check(p))
		}
	}
}
