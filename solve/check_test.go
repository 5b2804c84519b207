package solve_test

import (
	"testing"

	"provost/api"
	"provost/solve"
)

// P12.1

func TestCheckAtTheLimits(t *testing.T) {
	one := r(api.Few, 1, 0)
	rules := func(n int) []api.Rule {
		var l []api.Rule
		for range n {
			l = append(l, one)
		}
		return l
	}
	for _, x := range []struct {
		name string
		p    api.Problem
		want api.Errno
	}{
		{"nothing", api.Problem{}, api.OK},
		{"12 steps", forAll(12, 3), api.OK},
		{"13 steps", forAll(13, 3), api.ErrTooBig},
		{"64 users", forAll(1, 64), api.OK},
		{"65 users", api.Problem{Users: 65}, api.ErrTooBig},
		{"32 rules", forAll(1, 1, rules(32)...), api.OK},
		{"33 rules", forAll(1, 1, rules(33)...), api.ErrTooBig},
		{"no users", open(0, who(u{}, u{})), api.OK},
		{"user -1", api.Problem{Users: -1}, api.ErrArg},
		{"user 63 of 64", open(64, who(u{63})), api.OK},
		{"user 63 of 63", open(63, who(u{63})), api.ErrArg},
		{"user 0 of none", open(0, who(u{0})), api.ErrArg},
		{"user 2 of 3", open(3, who(u{2})), api.OK},
		{"user 3 of 3", open(3, who(u{3})), api.ErrArg},
		{"a wrong user of the last step alone", open(3, who(u{0}, u{0}, u{0, 9})), api.ErrArg},
		{"fixed to the last user", with(forAll(1, 3), 2), api.OK},
		{"fixed to no user", with(forAll(1, 3), 3), api.ErrArg},
		{"fixed to -2", with(forAll(1, 3), -2), api.ErrArg},
		{"fixed to 63", with(forAll(1, 64), 63), api.OK},
		{"fixed to 64", with(forAll(1, 64), 64), api.ErrArg},
		{"fixed, of no users", with(open(0, who(u{})), 0), api.ErrArg},
		{"the last step is fixed wrongly", with(forAll(3, 3), 0, -1, 7), api.ErrArg},
		{"none fixed", api.Problem{Users: 3, Who: who(u{0})}, api.ErrArg},
		{"more fixed than there are steps", with(forAll(1, 3), 0, 0), api.ErrArg},
		{"fixed without steps", api.Problem{Users: 3, Fixed: u{-1}}, api.ErrArg},
		{"a rule of its steps", forAll(2, 2, r(api.Apart, 0, 0, 1)), api.OK},
		{"a rule with a K", forAll(2, 2, r(api.Apart, 1, 0, 1)), api.ErrArg},
		{"a rule of no kind", forAll(2, 2, r(6, 1, 0, 1)), api.ErrArg},
		{"the last rule is wrong", forAll(2, 2, one, r(api.Most, 2, 0, 2)), api.ErrArg},
		{"a rule without steps", api.Problem{Rules: []api.Rule{r(api.Most, 1)}}, api.ErrArg},
	} {
		if got := solve.Check(x.p); got != x.want {
			t.Errorf("%s: %v, not %v", x.name, got, x.want)
		}
	}
}

// Too big is told ahead of all else that is wrong.
func TestCheckTellsTooBigFirst(t *testing.T) {
	for _, p := range []api.Problem{
		{Users: -1, Who: make([]uint64, 13)},
		{Users: 65, Who: who(u{1}), Fixed: u{-9, 99}},
		{Users: -1, Rules: make([]api.Rule, 33)},
		{Users: 65, Who: make([]uint64, 13), Rules: make([]api.Rule, 33)},
	} {
		if got := solve.Check(p); got != api.ErrTooBig {
			t.Errorf("%v: %v", p, got)
		}
	}
}

func TestCheckTakesWhatTheOthersAreTestedWith(t *testing.T) {
	for _, p := range drawn() {
		if got := solve.Check(p); got != api.OK {
			t.Fatalf("%v: %v", p, got)
		}
	}
	for _, p := range wrong() {
		if solve.Check(p) == api.OK {
			t.Errorf("%v is taken", p)
		}
	}
}
