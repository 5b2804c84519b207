package rule_test

import (
	"math"
	"slices"
	"testing"

	"provost/api"
	"provost/part"
	"provost/rule"
)

// P6.4, P6.5

func checkTies(t *testing.T, n int, rules []api.Rule) {
	t.Helper()
	ties, err := rule.Ties(n, rules)
	foes, foesErr := rule.Foes(n, rules)
	clash := rule.Clash(n, rules)
	if !allTaken(n, rules) {
		if len(ties)+len(foes) != 0 || err != api.ErrArg || foesErr != api.ErrArg || clash {
			t.Errorf("of %d steps and %v: %v, %v, %v, %v, %v", n, rules, ties, err, foes, foesErr, clash)
		}
		return
	}
	if want := tied(n, rules); !slices.Equal(ties, want) || err != api.OK || !part.Legal(ties) {
		t.Errorf("Ties(%d, %v): %v, %v, not %v", n, rules, ties, err, want)
	}
	if want := opposed(n, rules); !slices.Equal(foes, want) || foesErr != api.OK {
		t.Errorf("Foes(%d, %v): %v, %v, not %v", n, rules, foes, foesErr, want)
	}
	if clash != clashing(n, rules) {
		t.Errorf("Clash(%d, %v): %v", n, rules, clash)
	}
	for a := range ties {
		for b := range ties {
			if ties[a] == ties[b] && foes[a] != foes[b] {
				t.Errorf("Foes(%d, %v): %v: %d and %d are in one block", n, rules, foes, a, b)
			}
		}
	}
}

func TestTiesOfEveryTwoRules(t *testing.T) {
	for n := range 5 {
		checkTies(t, n, nil)
		checkTies(t, n, []api.Rule{})
		for _, a := range rulesOf(n) {
			checkTies(t, n, []api.Rule{a})
			for _, b := range rulesOf(n) {
				checkTies(t, n, []api.Rule{a, b})
			}
		}
	}
}

func TestTiesOfManyRules(t *testing.T) {
	var d draw = 46
	for range 4000 {
		n := 2 + d.below(11)
		rules := d.rules(n, d.below(7))
		for i := range rules {
			// Pairs leave more to chains than long lists do.
			if steps := rules[i].Steps; rules[i].K == 0 && d.below(2) == 0 {
				rules[i].Steps = steps[:2]
			}
		}
		checkTies(t, n, rules)
	}
}

// A chain that goes through every step, told from either end or from the middle on.
func TestTiesOfChains(t *testing.T) {
	for n := 2; n <= 12; n++ {
		var chain []api.Rule
		for i := 1; i < n; i++ {
			chain = append(chain, of(api.Same, 0, i-1, i))
		}
		checkTies(t, n, chain)
		slices.Reverse(chain)
		checkTies(t, n, chain)
		checkTies(t, n, append(chain[n/2:], chain[:n/2]...))
		checkTies(t, n, append(slices.Clone(chain[1:]), of(api.Apart, 0, 0, n-1)))
		checkTies(t, n, append(slices.Clone(chain), of(api.Apart, 0, 0, n-1)))
	}
	checkTies(t, 12, []api.Rule{of(api.Same, 0, 0, 11), of(api.Same, 0, 1, 10), of(api.Same, 0, 2, 9), of(api.Same, 0, 9, 11), of(api.Apart, 0, 1, 2, 5)})
}

// Apart rules inside one block, and across two.
func TestFoesInsideABlock(t *testing.T) {
	same := of(api.Same, 0, 0, 2, 4)
	for _, x := range []struct {
		apart api.Rule
		foes  []uint64
		clash bool
	}{
		{of(api.Apart, 0, 0, 4), []uint64{21, 0, 21, 0, 21}, true},
		{of(api.Apart, 0, 2, 3), []uint64{8, 0, 8, 21, 8}, false},
		{of(api.Apart, 0, 1, 3), []uint64{0, 8, 0, 2, 0}, false},
		{of(api.Apart, 0, 0, 1, 2), []uint64{23, 21, 23, 0, 23}, true},
		{of(api.Apart, 0, 0, 1, 2, 3, 4), []uint64{31, 29, 31, 23, 31}, true},
	} {
		for _, rules := range [][]api.Rule{{same, x.apart}, {x.apart, same}} {
			foes, err := rule.Foes(5, rules)
			if !slices.Equal(foes, x.foes) || err != api.OK || rule.Clash(5, rules) != x.clash {
				t.Errorf("Foes(5, %v): %v, %v, not %v", rules, foes, err, x.foes)
			}
			checkTies(t, 5, rules)
		}
	}
}

// Only Same binds and only Apart parts: the others do neither, whatever they ask for.
func TestOtherKindsDoNotTie(t *testing.T) {
	rules := []api.Rule{of(api.Few, 1, 0, 1, 2), of(api.Most, 1, 0, 1, 2), of(api.Many, 3, 0, 1, 2)}
	ties, err := rule.Ties(3, rules)
	foes, foesErr := rule.Foes(3, rules)
	if !slices.Equal(ties, []int{0, 1, 2}) || !slices.Equal(foes, []uint64{0, 0, 0}) || err != api.OK || foesErr != api.OK || rule.Clash(3, rules) {
		t.Error(ties, err, foes, foesErr)
	}
}

func TestTiesRefuseRulesThatAreNone(t *testing.T) {
	var d draw = 64
	for n := range 14 {
		for _, bad := range wrongOf(n) {
			checkTies(t, n, []api.Rule{bad})
			rules := d.rules(max(2, min(n, 12)), 4)
			for i := range 5 {
				checkTies(t, n, slices.Insert(slices.Clone(rules), i, bad))
			}
			checkTies(t, n, append(slices.Clone(rules), bad, bad))
		}
	}
}

func TestTiesOfNumbersThatAreNone(t *testing.T) {
	pair := []api.Rule{of(api.Same, 0, 0, 1), of(api.Apart, 0, 0, 1)}
	for _, n := range []int{math.MinInt, -1, 0, 1, 2, 12, 13, 25, 26, 64, math.MaxInt} {
		checkNoOrWhole(t, n)
		if n < 2 || n > 12 {
			ties, err := rule.Ties(n, pair)
			foes, foesErr := rule.Foes(n, pair)
			if len(ties)+len(foes) != 0 || err != api.ErrArg || foesErr != api.ErrArg || rule.Clash(n, pair) {
				t.Errorf("of %d steps: %v, %v, %v, %v", n, ties, err, foes, foesErr)
			}
		}
	}
}

// checkNoOrWhole asks of n steps without a rule.
func checkNoOrWhole(t *testing.T, n int) {
	t.Helper()
	ties, err := rule.Ties(n, nil)
	foes, foesErr := rule.Foes(n, nil)
	length, want := n, api.OK
	if n < 0 || n > 12 {
		length, want = 0, api.ErrArg
	}
	if len(ties) != length || len(foes) != length || err != want || foesErr != want || rule.Clash(n, nil) {
		t.Errorf("of %d steps and no rules: %v, %v, %v, %v", n, ties, err, foes, foesErr)
	}
}

func TestTiesOfMoreRulesThanAFlowHas(t *testing.T) {
	var d draw = 33
	checkTies(t, 12, d.rules(12, 33))
	var many []api.Rule
	for range 1000 {
		many = append(many, of(api.Same, 0, 3, 7), of(api.Apart, 0, 1, 7))
	}
	checkTies(t, 12, many)
}
