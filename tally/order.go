package tally

import (
	"math/bits"
	"slices"

	"provost/api"
)

// may are the users that may do a step: of one that is fixed its user alone.
func may(p api.Problem, step int) uint64 {
	if user := p.Fixed[step]; user >= 0 {
		return 1 << user
	}
	return p.Who[step]
}

// ownOrder are the steps as they are numbered.
func ownOrder(p api.Problem) []int {
	order := make([]int, len(p.Who))
	for step := range order {
		order[step] = step
	}
	return order
}

// closeOrder are the steps in an order that begins with those given, and in which
// each other one is bound closely to those ahead of it: so it is soon seen what
// cannot be.
func closeOrder(p api.Problem, given ...int) []int {
	order := slices.Clone(given)
	for len(order) < len(p.Who) {
		order = append(order, closest(p, order))
	}
	return order
}

// closest is the step, of those that are not in an order yet, with the strongest
// bond to it.
func closest(p api.Problem, order []int) int {
	found, best := -1, 0
	for step := range p.Who {
		if slices.Contains(order, step) {
			continue
		}
		if b := bond(p, step, order); found < 0 || b > best {
			found, best = step, b
		}
	}
	return found
}

// bond is the stronger, the more rules a step stands in with steps of an order; of
// as many, the fewer users may do it; of as few, the more rules it stands in at all.
func bond(p api.Problem, step int, order []int) int {
	ordered := func(other int) bool { return slices.Contains(order, other) }
	shared, all := 0, 0
	for _, r := range p.Rules {
		if !slices.Contains(r.Steps, step) {
			continue
		}
		all++
		if slices.ContainsFunc(r.Steps, ordered) {
			shared++
		}
	}
	users := bits.OnesCount64(may(p, step))
	return (shared*(api.MaxUsers+1)-users)*(api.MaxRules+1) + all
}

// placesOf are the places in an order at which steps stand, rising.
func placesOf(steps, order []int) []int {
	var places []int
	for _, step := range steps {
		places = append(places, slices.Index(order, step))
	}
	slices.Sort(places)
	return places
}
