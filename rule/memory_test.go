package rule_test

import (
	"slices"
	"testing"

	"provost/api"
	"provost/rule"
)

// R2: what is told is the caller's own, its spare room too; what is handed in
// stays as it is.

// spoil writes into a list and into its spare room.
func spoil[T any](l []T, with T) {
	l = l[:cap(l)]
	for i := range l {
		l[i] = with
	}
}

// roomy is a list with spare room that is marked.
func roomy[T any](l []T, mark T) []T {
	room := append(slices.Clone(l), mark, mark, mark)
	return room[:len(l)]
}

// wholeRoom: does the list still stand, and its marks behind it?
func wholeRoom[T comparable](l, want []T, mark T) bool {
	return slices.Equal(l[:len(l)+3], append(slices.Clone(want), mark, mark, mark))
}

// handed are rules as a caller may hand them in, with spare room everywhere.
func handed(rules []api.Rule) []api.Rule {
	l := make([]api.Rule, 0, len(rules)+3)
	for _, r := range append(slices.Clone(rules), of(77, 77, 77), of(78, 78, 78), of(79, 79, 79)) {
		r.Steps = roomy(r.Steps, 7)
		l = append(l, r)
	}
	return l[:len(rules)]
}

// untouched: are they still as they were handed in?
func untouched(l, rules []api.Rule) bool {
	all := append(slices.Clone(rules), of(77, 77, 77), of(78, 78, 78), of(79, 79, 79))
	return slices.EqualFunc(l[:len(l)+3], all, func(a, b api.Rule) bool {
		return a.Kind == b.Kind && a.K == b.K && wholeRoom(a.Steps, b.Steps, 7)
	})
}

// some are lists of rules between four steps: sound ones, clashing ones, wrong ones.
func some() [][]api.Rule {
	var d draw = 22
	lists := [][]api.Rule{nil, {of(api.Same, 0, 0, 1), of(api.Same, 0, 1, 2), of(api.Apart, 0, 2, 3), of(api.Many, 2, 0, 3)}, {of(api.Same, 0, 0, 3), of(api.Apart, 0, 0, 3)}, wrongOf(4)}
	for i := range 40 {
		lists = append(lists, d.rules(4, i%7))
	}
	return append(lists, append(d.rules(4, 3), of(api.Same, 0, 2, 1)))
}

func TestArgumentsStay(t *testing.T) {
	labels, names := []int{5, 7, 5, 5}, []string{"a", "b", "c", "d"}
	for _, rules := range some() {
		l, row, texts := handed(rules), roomy(labels, 77), roomy(names, "mark")
		rule.Broken(l, row)
		rule.Ties(4, l)
		rule.Foes(4, l)
		rule.Clash(4, l)
		for _, r := range l {
			rule.Check(4, r)
			rule.Holds(r, row)
			rule.Early(r, 4, row[:2])
			rule.Text(r, texts)
		}
		if !untouched(l, rules) || !wholeRoom(row, labels, 77) || !wholeRoom(texts, names, "mark") {
			t.Errorf("%v: what was handed in has changed: %v, %v, %v", rules, l, row, texts)
		}
	}
}

func TestRowsThatAreToldAreTheCallersOwn(t *testing.T) {
	labels := []int{5, 7, 5, 5}
	for _, rules := range some() {
		l := handed(rules)
		checkOwn(t, rules, "Broken", func() []int { return rule.Broken(l, labels) })
		checkOwn(t, rules, "Ties", func() []int { ties, _ := rule.Ties(4, l); return ties })
		checkOwn(t, rules, "Foes", func() []uint64 { foes, _ := rule.Foes(4, l); return foes })
		if !untouched(l, rules) || !slices.Equal(labels, []int{5, 7, 5, 5}) {
			t.Errorf("%v: an answer shares memory with what was handed in: %v, %v", rules, l, labels)
		}
	}
}

// checkOwn spoils an answer: another one, told ahead of that or behind it, stays whole.
func checkOwn[T int | uint64](t *testing.T, rules []api.Rule, name string, ask func() []T) {
	t.Helper()
	first, second := ask(), ask()
	want := slices.Clone(second)
	spoil(first, 9)
	if third := ask(); !slices.Equal(second, want) || !slices.Equal(third, want) {
		t.Errorf("%s of %v, asked again: %v, %v, not %v", name, rules, second, third, want)
	}
}

// Nil and empty lists are one.
func TestNilAndEmptyListsAreOne(t *testing.T) {
	for _, x := range [][]int{nil, {}} {
		r := api.Rule{Kind: api.Most, K: 1, Steps: x}
		wantCheck(t, 2, r, api.ErrArg)
		if rule.Holds(of(api.Most, 1, 0), x) || !rule.Early(of(api.Most, 1, 0), 1, x) || len(rule.Broken(nil, x)) != 0 {
			t.Error("of no labels")
		}
	}
	for _, rules := range [][]api.Rule{nil, {}} {
		checkTies(t, 3, rules)
		if len(rule.Broken(rules, []int{1})) != 0 {
			t.Error("Broken of no rules")
		}
	}
	wantText(t, of(api.Most, 1, 0), []string{}, "", api.ErrArg)
}
