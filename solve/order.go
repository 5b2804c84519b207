package solve

import (
	"cmp"
	"math/bits"
	"slices"

	"provost/api"
)

// tightest are the steps in an order in which it is soon seen that there is no
// plan: those that the fewest users may do first, of these those in more rules.
func tightest(p api.Problem) []int {
	order, room := make([]int, len(p.Who)), make([]int, len(p.Who))
	for step := range order {
		order[step] = step
		room[step] = bits.OnesCount64(may(p, step))*(api.MaxRules+1) - len(rulesOf(p, step))
	}
	slices.SortStableFunc(order, func(a, b int) int { return cmp.Compare(room[a], room[b]) })
	return order
}

// reordered is the problem whose steps are p's in that order.
func reordered(p api.Problem, order []int) api.Problem {
	q := api.Problem{Users: p.Users}
	for _, step := range order {
		q.Who = append(q.Who, p.Who[step])
		q.Fixed = append(q.Fixed, p.Fixed[step])
	}
	for _, r := range p.Rules {
		r.Steps = moved(r.Steps, order)
		q.Rules = append(q.Rules, r)
	}
	return q
}

// moved are the places in an order at which the steps stand, rising.
func moved(steps, order []int) []int {
	var places []int
	for place, step := range order {
		if slices.Contains(steps, step) {
			places = append(places, place)
		}
	}
	return places
}
