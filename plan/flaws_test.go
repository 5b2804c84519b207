package plan_test

import (
	"math"
	"slices"
	"testing"

	"provost/api"
	"provost/plan"
)

// P14.1

// lists are all lists of n numbers of low to high.
func lists(n, low, high int) [][]int {
	all := [][]int{{}}
	for range n {
		var longer [][]int
		for _, l := range all {
			for x := low; x <= high; x++ {
				longer = append(longer, append(slices.Clone(l), x))
			}
		}
		all = longer
	}
	return all
}

func TestFlawsOfAllLists(t *testing.T) {
	d := dice(3)
	for i := range 300 {
		p := d.problem(i%5, d.draw(4), d.draw(4))
		for n := range min(len(p.Who)+2, 5) {
			for _, l := range lists(n, -1, p.Users) {
				checkFlaws(t, p, l)
			}
		}
	}
}

func TestFlawsOfDrawnLists(t *testing.T) {
	d := dice(4)
	for _, p := range drawn() {
		for range 10 {
			var l []int
			for range p.Who {
				l = append(l, d.draw(p.Users+2)-1)
			}
			checkFlaws(t, p, l)
			checkFlaws(t, p, append(l, 0))
		}
	}
}

// All kinds of flaws stand in one answer, the steps' ahead of the rules', whatever
// the users are; the last of 12 steps and of 32 rules is among them.
func TestFlawsInTheirOrder(t *testing.T) {
	rules := slices.Repeat([]api.Rule{r(api.Same, 0, 0, 1)}, 32)
	rules[0] = r(api.Many, 12, upTo(12)...)
	rules[31] = r(api.Apart, 0, 1, 2)
	p := forAll(12, 64, rules...)
	p.Fixed[0], p.Fixed[11] = 3, 63
	p.Who[4] = 1
	l := u{3, 3, 3, 64, 1, 0, -1, 0, 0, 0, 0, 62}
	want := []api.Flaw{
		{Kind: api.FlawUser, Step: 3},
		{Kind: api.FlawWho, Step: 4},
		{Kind: api.FlawUser, Step: 6},
		{Kind: api.FlawFixed, Step: 11},
		{Kind: api.FlawRule},
		{Kind: api.FlawRule, Rule: 31},
	}
	got, err := plan.Flaws(p, l)
	if err != api.OK || !slices.Equal(got, want) {
		t.Errorf("%v, %v; not %v", got, err, want)
	}
	checkFlaws(t, p, l)
}

// A step has one flaw at most: of a user who is none no other is told.
func TestFlawsOfNoUsers(t *testing.T) {
	p := fixed(open(3, who(u{0, 1, 2}, u{}, u{}), r(api.Apart, 0, 0, 1)), 1, -1, 2)
	for _, user := range []int{-1, 3, 63, 64, 65, 128, 255, math.MinInt, math.MaxInt} {
		want := []api.Flaw{
			{Kind: api.FlawUser}, {Kind: api.FlawUser, Step: 1}, {Kind: api.FlawUser, Step: 2}, {Kind: api.FlawRule},
		}
		got, err := plan.Flaws(p, u{user, user, user})
		if err != api.OK || !slices.Equal(got, want) {
			t.Errorf("user %d: %v, %v", user, got, err)
		}
	}
}

// A step that is fixed is that user's, whether Who has it or not.
func TestFlawsOfFixedSteps(t *testing.T) {
	for _, has := range [][]int{{}, {1}, {0, 1, 2}} {
		p := fixed(open(3, who(has)), 1)
		for user := range 3 {
			got, err := plan.Flaws(p, u{user})
			if user == 1 && (err != api.OK || len(got) > 0) {
				t.Errorf("Who %v: its own user: %v, %v", has, got, err)
			}
			if user != 1 && (err != api.OK || !slices.Equal(got, []api.Flaw{{Kind: api.FlawFixed}})) {
				t.Errorf("Who %v: user %d: %v, %v", has, user, got, err)
			}
		}
	}
}

// Of a plan that is not as long as the steps nothing else is told.
func TestFlawsOfTheLength(t *testing.T) {
	p := forAll(12, 2, r(api.Many, 2, upTo(12)...))
	for _, n := range []int{0, 1, 11, 13, 64, 1000} {
		got, err := plan.Flaws(p, slices.Repeat(u{-7}, n))
		if err != api.OK || !slices.Equal(got, []api.Flaw{{Kind: api.FlawLength}}) {
			t.Errorf("%d users: %v, %v", n, got, err)
		}
	}
	if got, err := plan.Flaws(api.Problem{}, u{0}); err != api.OK || !slices.Equal(got, []api.Flaw{{Kind: api.FlawLength}}) {
		t.Error("without steps:", got, err)
	}
	for _, none := range []u{nil, {}} {
		if got, err := plan.Flaws(api.Problem{}, none); err != api.OK || len(got) > 0 {
			t.Error("without steps, the plan of none:", got, err)
		}
	}
}
