package rule_test

import (
	"math"
	"slices"
	"strconv"

	"provost/api"
)

func of(kind, k int, steps ...int) api.Rule {
	return api.Rule{Kind: kind, K: k, Steps: steps}
}

// taken is Check as the chapter's words say it.
func taken(n int, r api.Rule) bool {
	if n < 0 || n > 12 {
		return false
	}
	for i, step := range r.Steps {
		if step < 0 || step > n-1 || i > 0 && step <= r.Steps[i-1] {
			return false
		}
	}
	switch r.Kind {
	case api.Apart:
		return r.K == 0 && len(r.Steps) >= 2
	case api.Same:
		return r.K == 0 && len(r.Steps) >= 2
	case api.Most:
		return 1 <= r.K && r.K <= 999999999 && len(r.Steps) > 0
	case api.Few:
		return 1 <= r.K && r.K <= 999999999 && len(r.Steps) > 0
	case api.Many:
		return 1 <= r.K && r.K <= len(r.Steps)
	}
	return false
}

// kept is Holds by a plain count of how often each label stands.
func kept(r api.Rule, labels []int) bool {
	if !taken(len(labels), r) {
		return false
	}
	times := map[int]int{}
	for _, step := range r.Steps {
		times[labels[step]]++
	}
	commonest := 0
	for _, often := range times {
		commonest = max(commonest, often)
	}
	switch r.Kind {
	case api.Apart:
		return len(times) == len(r.Steps)
	case api.Same:
		return commonest == len(r.Steps)
	case api.Most:
		return commonest <= r.K
	case api.Few:
		return len(times) <= r.K
	}
	return len(times) >= r.K
}

// canBeKept is Early by a search over every way to go on: with a label that
// stands already, or with one that does not.
func canBeKept(r api.Rule, n int, beginning []int) bool {
	if !taken(n, r) || len(beginning) > n {
		return false
	}
	if len(beginning) == n {
		return kept(r, beginning)
	}
	unlike := math.MinInt
	for slices.Contains(beginning, unlike) {
		unlike++
	}
	for _, label := range append(slices.Clone(beginning), unlike) {
		if canBeKept(r, n, append(slices.Clone(beginning), label)) {
			return true
		}
	}
	return false
}

func allTaken(n int, rules []api.Rule) bool {
	for _, r := range rules {
		if !taken(n, r) {
			return false
		}
	}
	return n >= 0 && n <= 12
}

// chained is the set of steps that chains lead to from one, followed step by step.
func chained(from int, rules []api.Rule) map[int]bool {
	there := map[int]bool{from: true}
	for todo := []int{from}; len(todo) > 0; todo = todo[1:] {
		for _, r := range rules {
			if r.Kind != api.Same || !slices.Contains(r.Steps, todo[0]) {
				continue
			}
			for _, step := range r.Steps {
				if !there[step] {
					there[step] = true
					todo = append(todo, step)
				}
			}
		}
	}
	return there
}

// tied is Ties: each step is in the block of the least one that a chain leads to.
func tied(n int, rules []api.Rule) []int {
	a, blocks := make([]int, n), 0
	for step := range n {
		there, least := chained(step, rules), 0
		for !there[least] {
			least++
		}
		if least < step {
			a[step] = a[least]
		} else {
			a[step] = blocks
			blocks++
		}
	}
	return a
}

// opposed is Foes, bit by bit.
func opposed(n int, rules []api.Rule) []uint64 {
	words := make([]uint64, n)
	for a := range n {
		for b := range n {
			if keptApart(chained(a, rules), chained(b, rules), rules) {
				words[a] |= 1 << b
			}
		}
	}
	return words
}

// keptApart: has some Apart rule two unlike Steps, one in each of the blocks?
func keptApart(inA, inB map[int]bool, rules []api.Rule) bool {
	for _, r := range rules {
		for _, x := range r.Steps {
			for _, y := range r.Steps {
				if r.Kind == api.Apart && x != y && inA[x] && inB[y] {
					return true
				}
			}
		}
	}
	return false
}

// clashing is Clash.
func clashing(n int, rules []api.Rule) bool {
	for step, word := range opposed(n, rules) {
		if word>>step&1 == 1 {
			return true
		}
	}
	return false
}

// stepsOf are all lists of numbers of n steps that rise.
func stepsOf(n int) [][]int {
	var lists [][]int
	for w := range 1 << n {
		var steps []int
		for i := range n {
			if w>>i&1 == 1 {
				steps = append(steps, i)
			}
		}
		lists = append(lists, steps)
	}
	return lists
}

// rulesOf are rules between n steps: all that Check takes, but for greater Ks.
func rulesOf(n int) []api.Rule {
	var rules []api.Rule
	for kind := api.Apart; kind <= api.Many; kind++ {
		for _, steps := range stepsOf(n) {
			for _, k := range []int{0, 1, 2, 3, 4, 5, 12, 13, 999999999} {
				if r := of(kind, k, steps...); taken(n, r) {
					rules = append(rules, r)
				}
			}
		}
	}
	return rules
}

// wrongOf are rules that are none between n steps.
func wrongOf(n int) []api.Rule {
	return []api.Rule{
		{}, of(api.Apart, 0), of(api.Same, 0, 0), of(api.Apart, 0, 1, 0), of(api.Same, 0, 0, 0), of(api.Apart, 0, 0, n), of(api.Same, 0, -1, 0),
		of(api.Apart, 1, 0, 1), of(api.Same, -1, 0, 1), of(api.Most, 0, 0), of(api.Few, 0, 0), of(api.Most, 1), of(api.Few, 1), of(api.Most, 1000000000, 0),
		of(api.Few, math.MaxInt, 0), of(api.Many, 0, 0, 1), of(api.Many, 3, 0, 1), of(api.Many, 1), of(6, 1, 0), of(-1, 0, 0, 1), of(math.MinInt, 1, 0),
		of(api.Many, 1, math.MaxInt), of(api.Few, 1, math.MinInt), of(api.Most, 1, 0, n),
	}
}

// rows are all rows of n of the labels.
func rows(n int, labels ...int) [][]int {
	if n == 0 {
		return [][]int{nil}
	}
	var all [][]int
	for _, row := range rows(n-1, labels...) {
		for _, label := range labels {
			all = append(all, append(slices.Clone(row), label))
		}
	}
	return all
}

// draw draws numbers in a row that is always the same.
type draw uint64

func (d *draw) below(n int) int {
	*d = *d*6364136223846793005 + 1442695040888963407
	return int(uint64(*d)>>33) % n
}

// rule draws one that Check takes between n steps, two or more.
func (d *draw) rule(n int) api.Rule {
	for {
		var steps []int
		for i := range n {
			if d.below(3) == 0 {
				steps = append(steps, i)
			}
		}
		if r := of(d.below(5)+1, d.below(4), steps...); taken(n, r) {
			return r
		}
	}
}

func (d *draw) rules(n, many int) []api.Rule {
	rules := make([]api.Rule, many)
	for i := range rules {
		rules[i] = d.rule(n)
	}
	return rules
}

// pair draws a rule of that kind between two of n steps.
func (d *draw) pair(n, kind int) api.Rule {
	later := 1 + d.below(n-1)
	return of(kind, 0, d.below(later), later)
}

// row draws labels among some that lie far from one another.
func (d *draw) row(n, unlike int) []int {
	all := []int{5, -5, 0, math.MaxInt, math.MinInt, 1 << 40, -1, 64, 12, 7, -1 << 40, 1}
	row := make([]int, n)
	for i := range row {
		row[i] = all[d.below(unlike)]
	}
	return row
}

func show(r api.Rule) string {
	text := "kind " + strconv.Itoa(r.Kind) + " K " + strconv.Itoa(r.K) + " of"
	for _, step := range r.Steps {
		text += " " + strconv.Itoa(step)
	}
	return text
}
