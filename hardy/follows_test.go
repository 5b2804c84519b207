package hardy_test

import (
	"slices"
	"testing"

	"provost/api"
	"provost/hardy"
	"provost/solve"
)

// P16.5

// planWith: has the problem a plan with these lost?
func planWith(t *testing.T, p api.Problem, lost uint64) bool {
	t.Helper()
	q, err := hardy.Lose(p, lost)
	if err != api.OK {
		t.Fatalf("%v: Lose(%b): %v", p, lost, err)
	}
	return solve.New().Can(q)
}

func TestNoLossGivesAPlan(t *testing.T) {
	for _, p := range drawn() {
		if solve.New().Can(p) {
			continue
		}
		for lost := range uint64(1) << p.Users {
			if planWith(t, p, lost) {
				t.Fatalf("%v: a plan with %b lost", p, lost)
			}
		}
	}
}

// A set that has a weak set in it is weak: so of more users there is a weak set,
// while there are so many users.
func TestMoreLossIsWeakToo(t *testing.T) {
	d := dice(4)
	for _, p := range append(drawn(), drawnGreat()...) {
		for many := range 4 {
			lost, is := hardy.Weak(p, many)
			if !is {
				continue
			}
			if more := word(lost...) | word(d.some(p.Users)...); planWith(t, p, more) {
				t.Fatalf("%v: %v is weak, and %b is not", p, lost, more)
			}
			if _, next := hardy.Weak(p, many+1); next != (many < 3 && many < p.Users) {
				t.Fatalf("%v: %v is weak; Weak(p, %d): %v", p, lost, many+1, next)
			}
		}
	}
}

// A user is needed just if that user alone is weak, and there is a plan.
func TestNeededAreWeakAlone(t *testing.T) {
	some := 0
	for _, p := range append(drawn(), drawnGreat()...) {
		needed := hardy.Needed(p)
		for user := range 64 {
			want := user < p.Users && planWith(t, p, 0) && !planWith(t, p, word(user))
			if needed>>user&1 == 1 != want {
				t.Fatalf("%v: Needed: %b", p, needed)
			}
		}
		if lost, is := hardy.Weak(p, 1); needed != 0 {
			some++
			if least := slices.IndexFunc(upTo(64), func(user int) bool { return needed>>user&1 == 1 }); !is || !slices.Equal(lost, u{least}) {
				t.Fatalf("%v: Needed: %b, Weak: %v, %v", p, needed, lost, is)
			}
		}
	}
	if some < 100 {
		t.Error("problems that need users:", some)
	}
}

// Who may do what tells, not in which order the steps and the rules stand.
func TestTheOrderOfStepsDoesNotTell(t *testing.T) {
	for _, p := range drawn() {
		n := len(p.Who)
		q := api.Problem{Users: p.Users, Who: slices.Clone(p.Who), Fixed: slices.Clone(p.Fixed)}
		slices.Reverse(q.Who)
		slices.Reverse(q.Fixed)
		for _, x := range slices.Backward(p.Rules) {
			var steps []int
			for _, step := range slices.Backward(x.Steps) {
				steps = append(steps, n-1-step)
			}
			q.Rules = append(q.Rules, r(x.Kind, x.K, steps...))
		}
		x := tell(p)
		for many, l := range x.weak {
			if !x.is[many] {
				x.weak[many] = nil
			} else if l == nil {
				x.weak[many] = u{}
			}
		}
		checkTold(t, q, x.needed, x.weak, x.grade)
	}
}
