package rule_test

import (
	"slices"
	"testing"

	"provost/api"
	"provost/part"
	"provost/rule"
)

func TestRunsOfCheck(t *testing.T) {
	wantCheck(t, 3, of(api.Apart, 0, 0, 2), api.OK)
	wantCheck(t, 3, of(api.Apart, 0, 2, 0), api.ErrArg)
	wantCheck(t, 3, of(api.Apart, 0, 1), api.ErrArg)
	wantCheck(t, 3, of(api.Apart, 0, 0, 3), api.ErrArg)
	wantCheck(t, 3, of(api.Apart, 1, 0, 2), api.ErrArg)
	wantCheck(t, 3, of(api.Many, 3, 0, 1, 2), api.OK)
	wantCheck(t, 3, of(api.Many, 4, 0, 1, 2), api.ErrArg)
	wantCheck(t, 3, of(api.Most, 9, 1), api.OK)
	wantCheck(t, 3, of(api.Few, 0, 1), api.ErrArg)
	wantCheck(t, 3, of(6, 1, 1), api.ErrArg)
}

func TestRunsOfHoldsAndBroken(t *testing.T) {
	labels := []int{5, 7, 5, 5}
	rules := []api.Rule{of(api.Apart, 0, 0, 1), of(api.Apart, 0, 0, 2), of(api.Same, 0, 0, 2, 3), of(api.Most, 2, 0, 1, 2, 3), of(api.Most, 3, 0, 1, 2, 3), of(api.Few, 2, 0, 1, 2, 3), of(api.Many, 3, 0, 1, 2, 3)}
	for i, want := range []bool{true, false, true, false, true, true, false} {
		if rule.Holds(rules[i], labels) != want {
			t.Errorf("Holds(%s, %v): %v", show(rules[i]), labels, !want)
		}
	}
	if got := rule.Broken(rules, labels); !slices.Equal(got, []int{1, 3, 6}) {
		t.Error("Broken:", got)
	}
}

func TestRunsOfEarly(t *testing.T) {
	for _, x := range []struct {
		r         api.Rule
		n         int
		beginning []int
		want      bool
	}{
		{of(api.Many, 3, 0, 1, 2, 3), 4, []int{5, 5}, true},
		{of(api.Many, 3, 0, 1, 2, 3), 4, []int{5, 5, 5}, false},
		{of(api.Apart, 0, 0, 3), 4, []int{1, 1, 1}, true},
		{of(api.Few, 1, 0, 1), 2, []int{1, 2}, false},
	} {
		if rule.Early(x.r, x.n, x.beginning) != x.want {
			t.Errorf("Early(%s, %d, %v): %v", show(x.r), x.n, x.beginning, !x.want)
		}
	}
}

func TestRunsOfTies(t *testing.T) {
	rules := []api.Rule{of(api.Same, 0, 0, 1), of(api.Same, 0, 1, 2), of(api.Apart, 0, 2, 3)}
	ties, err := rule.Ties(4, rules)
	if !slices.Equal(ties, []int{0, 0, 0, 1}) || err != api.OK {
		t.Error("Ties:", ties, err)
	}
	foes, err := rule.Foes(4, rules)
	if !slices.Equal(foes, []uint64{8, 8, 8, 7}) || err != api.OK || rule.Clash(4, rules) {
		t.Error("Foes:", foes, err)
	}
	rules = append(rules, of(api.Apart, 0, 0, 1))
	foes, err = rule.Foes(4, rules)
	if !slices.Equal(foes, []uint64{15, 15, 15, 7}) || err != api.OK || !rule.Clash(4, rules) {
		t.Error("Foes:", foes, err)
	}
}

func TestRunsOfText(t *testing.T) {
	wantText(t, of(api.Most, 2, 0, 2), []string{"a", "b", "c"}, "most 2 of a, c", api.OK)
	wantText(t, of(api.Apart, 0, 0, 1), []string{"a", "b"}, "apart a, b", api.OK)
}

func TestExamples(t *testing.T) {
	users := []int{63, 0, 63, 17}
	blocks, _ := part.Of(users)
	for _, steps := range stepsOf(4) {
		if r := of(api.Apart, 0, steps...); rule.Holds(r, users) != rule.Holds(r, blocks) {
			t.Errorf("Holds(%s) over users is not as over blocks", show(r))
		}
	}
	for n := range 6 {
		for _, r := range rulesOf(n) {
			if !rule.Early(r, n, []int{}) {
				t.Errorf("Early(%s, %d, [])", show(r), n)
			}
		}
	}
	ties, err := rule.Ties(0, nil)
	foes, foesErr := rule.Foes(0, nil)
	if len(ties)+len(foes) != 0 || err != api.OK || foesErr != api.OK {
		t.Error("of no steps:", ties, err, foes, foesErr)
	}
}
