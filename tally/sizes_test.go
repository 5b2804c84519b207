package tally_test

import (
	"slices"
	"testing"

	"provost/api"
	"provost/tally"
)

// P13.4

func TestSizesAndLoad(t *testing.T) {
	all := steps(0, 12)
	falling := forAll(12, 12)
	for step := range falling.Who {
		falling.Who[step] = 1 << (11 - step)
	}
	pairs := forAll(12, 64)
	for step := 0; step < 12; step += 2 {
		pairs.Rules = append(pairs.Rules, r(api.Same, 0, step, step+1))
	}
	full := forAll(12, 64, slices.Repeat([]api.Rule{r(api.Few, 7, all...), r(api.Many, 4, all...)}, 16)...)
	for _, x := range []struct {
		name            string
		p               api.Problem
		least, greatest int
		load            int
	}{
		{"all", forAll(12, 64), 1, 12, 1},
		{"one user", forAll(12, 1), 1, 1, 12},
		{"three users", forAll(12, 3), 1, 3, 4},
		{"five users", forAll(12, 5), 1, 5, 3},
		{"eleven users", forAll(12, 11), 1, 11, 2},
		{"apart", forAll(12, 64, r(api.Apart, 0, all...)), 12, 12, 1},
		{"same", forAll(12, 64, r(api.Same, 0, all...)), 1, 1, 12},
		{"pairs", pairs, 1, 6, 2},
		{"few", forAll(12, 64, r(api.Few, 5, all...)), 1, 5, 3},
		{"many", forAll(12, 64, r(api.Many, 5, all...)), 5, 12, 1},
		{"few and many", forAll(12, 64, r(api.Few, 5, all...), r(api.Many, 5, all...)), 5, 5, 3},
		{"few of each half", forAll(12, 64, r(api.Few, 2, steps(0, 6)...), r(api.Few, 2, steps(6, 12)...)), 1, 4, 3},
		{"most", forAll(12, 64, r(api.Most, 5, all...)), 3, 12, 1},
		{"most of the last ones", forAll(12, 64, r(api.Most, 1, steps(5, 12)...)), 7, 12, 1},
		{"each its own", falling, 12, 12, 1},
		{"each fixed", fixed(forAll(6, 64), 0, 63, 0, 63, 5, 0), 3, 3, 3},
		{"as many rules as there may be", full, 4, 7, 2},
		{"one step", forAll(1, 64), 1, 1, 1},
	} {
		least, greatest, ok := tally.Sizes(x.p)
		if least != x.least || greatest != x.greatest || !ok {
			t.Errorf("%s: Sizes %d, %d, %v; not %d, %d", x.name, least, greatest, ok, x.least, x.greatest)
		}
		if load, ok := tally.Load(x.p); load != x.load || !ok {
			t.Errorf("%s: Load %d, %v; not %d", x.name, load, ok, x.load)
		}
	}
}

func TestNoSizesAndNoLoad(t *testing.T) {
	all := steps(0, 12)
	for _, p := range append(wrong(),
		open(0, who(u{})),
		open(3, who(u{0}, u{}, u{2})),
		forAll(12, 11, r(api.Apart, 0, all...)),
		forAll(12, 64, r(api.Few, 1, 10, 11), r(api.Many, 2, 10, 11)),
		fixed(forAll(2, 2, r(api.Apart, 0, 0, 1)), 1, 1),
	) {
		least, greatest, ok := tally.Sizes(p)
		load, is := tally.Load(p)
		if least != 0 || greatest != 0 || ok || load != 0 || is {
			t.Errorf("%v: Sizes %d, %d, %v; Load %d, %v", p, least, greatest, ok, load, is)
		}
	}
}

// Neither the first plan nor the last one need have the fewest users, or the
// lightest load.
func TestSizesAndLoadOfPlansBetween(t *testing.T) {
	p := open(4, who(u{0, 2}, u{0, 3}, u{2}, u{3}))
	check(t, p)
	plans := plansOf(p)
	first, last := plans[0], plans[len(plans)-1]
	if least, greatest, ok := tally.Sizes(p); least != 2 || greatest != 3 || !ok {
		t.Error("Sizes:", least, greatest, ok)
	}
	if !slices.Equal(first, u{0, 0, 2, 3}) || !slices.Equal(last, u{0, 3, 2, 3}) {
		t.Error("the first and the last plan:", first, last)
	}
	q := forAll(4, 2)
	check(t, q)
	plans = plansOf(q)
	first, last = plans[0], plans[len(plans)-1]
	if load, ok := tally.Load(q); load != 2 || !ok {
		t.Error("Load:", load, ok)
	}
	if !slices.Equal(first, u{0, 0, 0, 0}) || !slices.Equal(last, u{1, 0, 0, 0}) {
		t.Error("the first and the last plan:", first, last)
	}
}
