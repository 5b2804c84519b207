package core

import (
	"slices"

	"provost/api"
)

// free stands in Fixed for a step that is nobody's yet.
const free = -1

// chosen says of a rule's place, or of a step, whether it is one of those meant.
type chosen func(place int) bool

func nothing(int) bool { return false }

func among(places []int) chosen {
	return func(place int) bool { return slices.Contains(places, place) }
}

func beside(places []int) chosen {
	return func(place int) bool { return !slices.Contains(places, place) }
}

// allBelow: is each of the places one of n?
func allBelow(n int, places []int) bool {
	return !slices.ContainsFunc(places, func(place int) bool { return place < 0 || place >= n })
}

// rest is a problem less the rules that are spared, and with the steps that are
// spared free for all, in memory of its own.
func rest(p api.Problem, sparedRule, sparedStep chosen) api.Problem {
	q := api.Problem{Users: p.Users, Who: slices.Clone(p.Who), Fixed: slices.Clone(p.Fixed)}
	for place, r := range p.Rules {
		if !sparedRule(place) {
			r.Steps = slices.Clone(r.Steps)
			q.Rules = append(q.Rules, r)
		}
	}
	for step := range p.Who {
		if sparedStep(step) {
			q.Who[step], q.Fixed[step] = everybody(p), free
		}
	}
	return q
}

// everybody is the word of all users: of 64 the shift leaves 0, and one less than
// that is a word of ones.
func everybody(p api.Problem) uint64 { return 1<<p.Users - 1 }
