package tally_test

import (
	"slices"
	"testing"

	"provost/api"
	"provost/solve"
	"provost/tally"
)

// P13.3 and P13.5

func checkLive(t *testing.T, p api.Problem, want ...uint64) {
	t.Helper()
	if got := tally.Live(p); !slices.Equal(got, want) {
		t.Errorf("%v: Live %b, not %b", p, got, want)
	}
}

// Users that may do a step, and are kept from it by what others may do.
func TestLiveOfCrowdedSteps(t *testing.T) {
	apart := r(api.Apart, 0, 0, 1, 2)
	checkLive(t, open(3, who(u{0, 1}, u{0, 1}, u{0, 1, 2}), apart), 3, 3, 4)
	checkLive(t, open(4, who(u{0, 1, 2, 3}, u{0, 1}, u{0, 1}), apart), 12, 3, 3)
	checkLive(t, open(3, who(u{0}, u{0, 1}, u{0, 1, 2}), apart), 1, 2, 4)
	checkLive(t, open(3, who(u{0}, u{0}, u{0, 1, 2}), apart), 0, 0, 0)
	checkLive(t, open(3, who(u{0, 1}, u{1, 2}, u{0, 1, 2}), r(api.Same, 0, 0, 1)), 2, 2, 7)
	checkLive(t, fixed(open(3, who(u{0, 1}, u{1, 2}, u{2}), r(api.Few, 1, 0, 1)), -1, -1, 0), 2, 2, 1)
}

func TestLiveOfNoPlan(t *testing.T) {
	checkLive(t, forAll(12, 11, r(api.Apart, 0, steps(0, 12)...)), make([]uint64, 12)...)
	checkLive(t, open(3, who(u{0}, u{}, u{2})), 0, 0, 0)
	checkLive(t, open(0, who(u{})), 0)
	checkLive(t, fixed(forAll(2, 2, r(api.Same, 0, 0, 1)), 0, 1), 0, 0)
}

func TestLiveOfTwelveSteps(t *testing.T) {
	all := ^uint64(0)
	checkLive(t, forAll(12, 64), slices.Repeat([]uint64{all}, 12)...)
	checkLive(t, forAll(12, 64, r(api.Apart, 0, steps(0, 12)...)), slices.Repeat([]uint64{all}, 12)...)
	// One user of all less at each step behind: the last ones leave none.
	narrow := forAll(12, 12, r(api.Apart, 0, steps(0, 12)...))
	want := make([]uint64, 12)
	for step := range 12 {
		narrow.Who[step] = 1<<(12-step) - 1
		want[step] = 1 << (11 - step)
	}
	checkLive(t, narrow, want...)
	// The first step and the last one are one user's, and none of the others'.
	tied := open(64, slices.Repeat([]uint64{1<<30 - 1}, 12), r(api.Same, 0, 0, 11))
	tied.Who[0], tied.Who[11] = 1<<32-1, all<<31
	want = slices.Clone(tied.Who)
	want[0], want[11] = 1<<31, 1<<31
	checkLive(t, tied, want...)
	// The last step's only user is not there for the one ahead of it.
	late := forAll(12, 64, r(api.Apart, 0, 10, 11))
	late.Fixed[11] = 63
	want = slices.Repeat([]uint64{all}, 12)
	want[10], want[11] = all>>1, 1<<63
	checkLive(t, late, want...)
}

// The first plan of All is solve's Least.
func TestFirstOfAllIsLeast(t *testing.T) {
	d := dice(4)
	s := solve.New()
	problems := append(drawn(), wrong()...)
	for range 200 {
		problems = append(problems, d.problem(7, 20, d.draw(4)))
	}
	problems = append(problems, forAll(12, 64), forAll(12, 64, r(api.Many, 12, steps(0, 12)...)), api.Problem{})
	for _, p := range problems {
		want, is := s.Least(p)
		var first []int
		told := false
		for first = range tally.All(p) {
			told = true
			break
		}
		if told != is || !slices.Equal(first, want) {
			t.Fatalf("%v: the first is %v, %v; Least %v, %v", p, first, told, want, is)
		}
	}
}

// A step that is not fixed has a user in Live just if Who has the user and p with
// the step fixed to that user has a plan.
func TestLiveByFix(t *testing.T) {
	d := dice(17)
	problems := drawn()
	for range 200 {
		problems = append(problems, d.problem(7, 1+d.draw(18), d.draw(6)))
	}
	dead := 0
	for _, p := range problems {
		for step, live := range tally.Live(p) {
			for user := range 64 {
				got := live>>user&1 == 1
				if want := may(p, step, user); got != want {
					t.Fatalf("%v: step %d by %d: %v", p, step, user, got)
				}
				if live != 0 && user < p.Users && p.Who[step]>>user&1 == 1 && !got {
					dead++
				}
			}
		}
	}
	if dead < 100 {
		t.Error("users that may do a step and do it in no plan, though there are some:", dead)
	}
}

// may: has p a plan in which the user does the step?
func may(p api.Problem, step, user int) bool {
	if is := p.Fixed[step]; is >= 0 {
		return is == user && solve.New().Can(p)
	}
	q, err := solve.Fix(p, step, user)
	return err == api.OK && p.Who[step]>>user&1 == 1 && solve.New().Can(q)
}
