package core_test

import (
	"testing"

	"provost/api"
	"provost/core"
)

// The chapter's runs and examples.

func TestRunsOfWhy(t *testing.T) {
	apart, same, most := r(api.Apart, 0, 0, 1), r(api.Same, 0, 0, 1), r(api.Most, 1, 0, 1)
	checkTold(t, open(2, who(u{0}, u{0}), apart), u{0}, u{0, 1}, true)
	checkTold(t, open(2, who(u{0}, u{0}), apart, most), u{1}, u{0, 1}, true)
	checkTold(t, open(2, who(u{0}, u{})), nil, u{1}, true)
	checkTold(t, open(2, who(u{0, 1}, u{0, 1}), apart, same), u{0, 1}, nil, true)
	checkTold(t, open(2, who(u{0, 1}, u{0, 1}), apart), nil, nil, false)
	checkTold(t, forAll(13, 2), nil, nil, false)
	checkTold(t, api.Problem{Users: 2, Who: make([]uint64, 13)}, nil, nil, false)
	checkTold(t, open(0, who(u{})), nil, nil, true)
}

func TestRunOfWithout(t *testing.T) {
	p := open(2, who(u{0}, u{0}), r(api.Apart, 0, 0, 1))
	q, err := core.Without(p, u{0, 0}, u{1})
	if want := open(2, who(u{0}, u{0, 1})); err != api.OK || show(q) != show(want) {
		t.Errorf("Without: %v, %v; not %v", q, err, want)
	}
}

// Of several reasons one is told: that whose rules come later.
func TestExampleOfSeveralReasons(t *testing.T) {
	apart, same := r(api.Apart, 0, 0, 1), r(api.Same, 0, 0, 1)
	few, many := r(api.Few, 1, 1, 2), r(api.Many, 2, 1, 2)
	checkTold(t, forAll(3, 3, apart, same, few, many), u{2, 3}, nil, true)
	checkTold(t, forAll(3, 3, few, many, apart, same), u{2, 3}, nil, true)
	checkTold(t, forAll(3, 3, apart, few, same, many), u{1, 3}, nil, true)
	checkTold(t, forAll(3, 3, few, apart, many, same), u{1, 3}, nil, true)
	checkTold(t, forAll(3, 3, apart, apart, same, apart, same), u{3, 4}, nil, true)
	checkTold(t, open(3, who(u{}, u{0, 1, 2}, u{}), apart, same), nil, u{2}, true)
}

// A step that is a user's already may be a reason, and is told as that step.
func TestExampleOfFixedSteps(t *testing.T) {
	apart := r(api.Apart, 0, 0, 1)
	checkTold(t, fixed(forAll(2, 2, apart), 1, 1), u{0}, u{0, 1}, true)
	checkTold(t, fixed(forAll(3, 2, apart), 1, 1, 1), u{0}, u{0, 1}, true)
	checkTold(t, fixed(open(2, who(u{0, 1}, u{1}), apart), 1, -1), u{0}, u{0, 1}, true)
	checkTold(t, fixed(open(2, who(u{0, 1}, u{}), r(api.Same, 0, 0, 1)), 1, 0), u{0}, u{0, 1}, true)
	checkTold(t, fixed(open(2, who(u{}, u{}), apart), 1, 0), nil, nil, false)
	checkTold(t, fixed(open(2, who(u{}, u{}), apart), 1, -1), nil, u{1}, true)
}
