package hardy_test

import (
	"testing"

	"provost/api"
	"provost/hardy"
)

// The chapter's runs and examples.

// first is the problem of the first run.
func first() api.Problem { return open(3, who(u{0, 1}, u{1, 2}), r(api.Apart, 0, 0, 1)) }

func TestRuns(t *testing.T) {
	checkTold(t, first(), 0, [4][]int{nil, nil, {0, 1}, {0, 1, 2}}, 1)
	checkTold(t, open(3, who(u{0}, u{1, 2})), word(0), [4][]int{nil, {0}, {0, 1}, {0, 1, 2}}, 0)
	checkTold(t, fixed(open(1, who(u{0})), 0), 0, [4][]int{}, 3)
	checkTold(t, open(1, who(u{})), 0, [4][]int{{}, {0}, nil, nil}, -1)
	checkTold(t, forAll(13, 3), 0, [4][]int{}, -1)
	for _, many := range []int{4, -1} {
		if l, is := hardy.Weak(first(), many); len(l) > 0 || is {
			t.Errorf("Weak(p, %d): %v, %v", many, l, is)
		}
	}
}

func TestRunOfLose(t *testing.T) {
	q, err := hardy.Lose(first(), word(1, 63))
	if want := open(3, who(u{0}, u{2}), r(api.Apart, 0, 0, 1)); err != api.OK || show(q) != show(want) {
		t.Errorf("Lose: %v, %v; not %v", q, err, want)
	}
}

// With fewer than k users there is no set of k of them.
func TestExampleOfFewUsers(t *testing.T) {
	checkTold(t, open(0, who(u{})), 0, [4][]int{{}, nil, nil, nil}, -1)
	checkTold(t, open(1, who(u{0})), word(0), [4][]int{nil, {0}, nil, nil}, 0)
	checkTold(t, open(2, who(u{0, 1})), 0, [4][]int{nil, nil, {0, 1}, nil}, 1)
	checkTold(t, open(2, who(u{0, 1}), r(api.Many, 1, 0)), 0, [4][]int{nil, nil, {0, 1}, nil}, 1)
	checkTold(t, open(2, who(u{0, 1}, u{})), 0, [4][]int{{}, {0}, {0, 1}, nil}, -1)
}

func TestExampleOfNoSteps(t *testing.T) {
	for users := range 65 {
		if grade, needed := hardy.Grade(api.Problem{Users: users}), hardy.Needed(api.Problem{Users: users}); grade != 3 || needed != 0 {
			t.Errorf("%d users: Grade: %d, Needed: %b", users, grade, needed)
		}
	}
	checkTold(t, api.Problem{Users: 64}, 0, [4][]int{}, 3)
	checkTold(t, api.Problem{}, 0, [4][]int{}, 3)
}
