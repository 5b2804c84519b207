package hardy_test

import (
	"math"
	"testing"

	"provost/api"
	"provost/hardy"
	"provost/solve"
)

// P16.1

// checkLose: is that what Lose tells, and nothing beside an error?
func checkLose(t *testing.T, p api.Problem, users uint64, want api.Errno) {
	t.Helper()
	var left api.Problem
	if want == api.OK {
		left = lose(p, users)
	}
	if got, err := hardy.Lose(p, users); err != want || show(got) != show(left) {
		t.Fatalf("%v: Lose(%b): %v, %v; not %v, %v", p, users, got, err, left, want)
	}
}

func TestLoseOfEverySet(t *testing.T) {
	p := open(4, who(u{0, 1, 2, 3}, u{}, u{1, 3}, u{0}), r(api.Apart, 0, 0, 1), r(api.Most, 2, 1, 2, 3), r(api.Apart, 0, 0, 1))
	for users := range uint64(64) {
		checkLose(t, p, users, api.OK)
		checkLose(t, fixed(p, 1, -1, 3, -1), users, api.OK)
	}
}

// Steps that are fixed stay so, though who may do them, too, are lost.
func TestLoseOfFixedSteps(t *testing.T) {
	p := fixed(open(2, who(u{0, 1}, u{1})), 1, 1)
	q, err := hardy.Lose(p, word(1))
	if want := fixed(open(2, who(u{0}, u{})), 1, 1); err != api.OK || show(q) != show(want) {
		t.Errorf("%v, %v; not %v", q, err, want)
	}
}

// Bits that are no users are not looked at.
func TestLoseOfWhoIsNoUser(t *testing.T) {
	for users := range 65 {
		p := forAll(2, users)
		checkLose(t, p, 0, api.OK)
		checkLose(t, p, math.MaxUint64, api.OK)
		checkLose(t, p, 1<<63, api.OK)
		checkLose(t, p, math.MaxUint64<<users, api.OK)
	}
	checkLose(t, api.Problem{}, math.MaxUint64, api.OK)
}

func TestLoseOfDrawnProblems(t *testing.T) {
	d := dice(3)
	for _, p := range append(drawn(), drawnGreat()...) {
		users := word(d.some(64)...)
		checkLose(t, p, users, api.OK)
		if q, _ := hardy.Lose(p, users); solve.Check(q) != api.OK {
			t.Fatalf("%v: Lose(%b) is no problem: %v", p, users, q)
		}
	}
}

func TestLoseOfWrongProblems(t *testing.T) {
	for _, p := range wrong() {
		for _, users := range []uint64{0, 1, math.MaxUint64} {
			checkLose(t, p, users, solve.Check(p))
		}
	}
	checkLose(t, forAll(13, 3), 0, api.ErrTooBig)
	checkLose(t, api.Problem{Users: -1}, 0, api.ErrArg)
}
