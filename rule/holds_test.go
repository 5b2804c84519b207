package rule_test

import (
	"math"
	"slices"
	"testing"

	"provost/api"
	"provost/part"
	"provost/rule"
)

// P6.2

func checkHolds(t *testing.T, r api.Rule, labels []int) {
	t.Helper()
	if got, want := rule.Holds(r, labels), kept(r, labels); got != want {
		t.Errorf("Holds(%s, %v): %v", show(r), labels, got)
	}
}

func TestHoldsOfAllShortRows(t *testing.T) {
	for n := range 5 {
		for _, r := range rulesOf(n) {
			for _, labels := range rows(n, math.MinInt, -1, 0, 7) {
				checkHolds(t, r, labels)
			}
		}
	}
}

func TestHoldsOfLongRows(t *testing.T) {
	var d draw = 6
	for range 20000 {
		n := 2 + d.below(11)
		checkHolds(t, d.rule(n), d.row(n, 1+d.below(12)))
	}
	long := make([]int, 12)
	for i := range long {
		long[i] = i - 6
	}
	for _, steps := range stepsOf(12) {
		for _, r := range []api.Rule{of(api.Apart, 0, steps...), of(api.Same, 0, steps...), of(api.Most, 1, steps...), of(api.Few, 11, steps...), of(api.Many, len(steps), steps...)} {
			checkHolds(t, r, long)
			checkHolds(t, r, make([]int, 12))
		}
	}
}

// Labels that no rule's Steps are of do not matter.
func TestHoldsLooksAtItsStepsAlone(t *testing.T) {
	for _, others := range []int{1, 2, 3, math.MinInt} {
		labels := []int{others, 1, others, 2, 2, others}
		for _, x := range []struct {
			r    api.Rule
			want bool
		}{
			{of(api.Apart, 0, 1, 3), true}, {of(api.Apart, 0, 3, 4), false}, {of(api.Same, 0, 3, 4), true}, {of(api.Same, 0, 1, 3, 4), false},
			{of(api.Most, 1, 1, 3), true}, {of(api.Most, 1, 1, 3, 4), false}, {of(api.Few, 1, 3, 4), true}, {of(api.Few, 1, 1, 4), false},
			{of(api.Many, 2, 1, 3, 4), true}, {of(api.Many, 3, 1, 3, 4), false}, {of(api.Many, 1, 1), true},
		} {
			if rule.Holds(x.r, labels) != x.want {
				t.Errorf("Holds(%s, %v): %v", show(x.r), labels, !x.want)
			}
		}
	}
}

func TestHoldsOfNoRules(t *testing.T) {
	for n := range 6 {
		for _, r := range wrongOf(n) {
			for _, labels := range rows(n, 0, 1) {
				if rule.Holds(r, labels) {
					t.Errorf("Holds(%s, %v)", show(r), labels)
				}
			}
		}
	}
	for _, r := range []api.Rule{of(api.Apart, 0, 0, 1), of(api.Same, 0, 0, 1), of(api.Most, 9, 0), of(api.Few, 9, 0), of(api.Many, 1, 0)} {
		if rule.Holds(r, make([]int, 13)) || rule.Holds(r, []int{0, 1, 2, 3, 4, 5, 6, 7, 8, 9, 10, 11, 12}) || rule.Holds(r, nil) {
			t.Error("Holds of thirteen labels, or none:", show(r))
		}
	}
}

func TestBrokenAgainstHolds(t *testing.T) {
	var d draw = 26
	for range 3000 {
		n := d.below(14)
		rules := d.rules(max(2, d.below(13)), d.below(40))
		for _, r := range wrongOf(n) {
			if d.below(4) == 0 {
				rules = slices.Insert(rules, d.below(len(rules)+1), r)
			}
		}
		labels := d.row(n, 1+d.below(4))
		var want []int
		for i, r := range rules {
			if !kept(r, labels) {
				want = append(want, i)
			}
		}
		if got := rule.Broken(rules, labels); !slices.Equal(got, want) {
			t.Errorf("Broken(%v, %v): %v, not %v", rules, labels, got, want)
		}
	}
	if got := rule.Broken(nil, []int{1}); len(got) != 0 {
		t.Error("Broken of no rules:", got)
	}
	if got := rule.Broken(wrongOf(3), []int{1, 2, 3}); len(got) != len(wrongOf(3)) || !slices.IsSorted(got) {
		t.Error("Broken of rules that are none:", got)
	}
	if got := rule.Broken(rulesOf(2), make([]int, 13)); len(got) != len(rulesOf(2)) {
		t.Error("Broken of thirteen labels:", got)
	}
}

// P6.3

func checkEarly(t *testing.T, r api.Rule, n int, beginning []int) {
	t.Helper()
	if got, want := rule.Early(r, n, beginning), canBeKept(r, n, beginning); got != want {
		t.Errorf("Early(%s, %d, %v): %v", show(r), n, beginning, got)
	}
}

func TestEarlyOfAllShortBeginnings(t *testing.T) {
	for n := range 5 {
		for _, r := range rulesOf(n) {
			for length := range n + 2 {
				for _, beginning := range rows(length, math.MinInt, 0, 3) {
					checkEarly(t, r, n, beginning)
				}
			}
		}
	}
}

func TestEarlyOfLongerBeginnings(t *testing.T) {
	var d draw = 36
	for range 4000 {
		n := 2 + d.below(11)
		length := max(0, n-d.below(5))
		checkEarly(t, d.rule(n), n, d.row(length, 1+d.below(6)))
	}
	for _, k := range []int{1, 6, 11, 12} {
		all := []int{0, 1, 2, 3, 4, 5, 6, 7, 8, 9, 10, 11}
		for length := 9; length <= 12; length++ {
			for unlike := 1; unlike <= length; unlike++ {
				beginning := make([]int, length)
				for i := range beginning {
					beginning[i] = min(i, unlike-1)
				}
				for kind := api.Most; kind <= api.Many; kind++ {
					checkEarly(t, of(kind, k, all...), 12, beginning)
				}
			}
		}
	}
}

func TestEarlyOfNoRulesOrTooManyLabels(t *testing.T) {
	for n := range 5 {
		for _, r := range wrongOf(n) {
			for length := range n + 2 {
				if beginning := make([]int, length); rule.Early(r, n, beginning) {
					t.Errorf("Early(%s, %d, %v)", show(r), n, beginning)
				}
			}
		}
	}
	for _, r := range []api.Rule{of(api.Apart, 0, 0, 1), of(api.Same, 0, 0, 1), of(api.Most, 9, 0), of(api.Few, 9, 0), of(api.Many, 1, 0)} {
		for _, n := range []int{math.MinInt, -1, 0, 13, 14, math.MaxInt} {
			if rule.Early(r, n, nil) || rule.Early(r, n, []int{1}) || rule.Early(r, n, make([]int, 13)) {
				t.Errorf("Early(%s) of %d steps", show(r), n)
			}
		}
		full := []int{1, 2, 3, 4, 5, 6, 7, 8, 9, 10, 11, 12, 13}
		if rule.Early(r, 12, full) || rule.Early(r, 2, full[:3]) {
			t.Errorf("Early(%s) of more labels than steps", show(r))
		}
	}
}

// With n labels there is nothing left to go on with; with none, every rule can be kept.
func TestEarlyAtBothEnds(t *testing.T) {
	for n := range 6 {
		for _, r := range rulesOf(n) {
			if !rule.Early(r, n, nil) || !rule.Early(r, n, []int{}) {
				t.Errorf("Early(%s, %d, [])", show(r), n)
			}
			for _, labels := range rows(min(n, 4), 0, 1, 2) {
				if len(labels) == n && rule.Early(r, n, labels) != rule.Holds(r, labels) {
					t.Errorf("Early(%s, %d, %v) is not Holds", show(r), n, labels)
				}
			}
		}
	}
}

// P6.7

func TestHoldsHangsOnThePattern(t *testing.T) {
	for n := range 5 {
		for _, r := range rulesOf(n) {
			for _, labels := range rows(n, 9, -2, 4) {
				checkPattern(t, r, labels)
			}
		}
	}
	var d draw = 76
	for range 5000 {
		n := 2 + d.below(11)
		checkPattern(t, d.rule(n), d.row(n, 1+d.below(12)))
	}
}

func checkPattern(t *testing.T, r api.Rule, labels []int) {
	t.Helper()
	pattern, err := part.Of(labels)
	if err != api.OK || rule.Holds(r, labels) != rule.Holds(r, pattern) {
		t.Errorf("Holds(%s) of %v is not as of %v", show(r), labels, pattern)
	}
}

func TestWhereThereIsAClashNoLabelsKeepAllRules(t *testing.T) {
	var d draw = 67
	clashes := 0
	for range 2000 {
		n := 2 + d.below(5)
		rules := append(d.rules(n, d.below(4)), d.pair(n, api.Same), d.pair(n, api.Same), d.pair(n, api.Apart))
		if !rule.Clash(n, rules) {
			continue
		}
		clashes++
		for pattern := range part.All(n) {
			if len(rule.Broken(rules, pattern)) == 0 {
				t.Errorf("%v clash, and %v keeps them", rules, pattern)
			}
		}
	}
	if clashes < 200 {
		t.Error("too few rules clash:", clashes)
	}
}
