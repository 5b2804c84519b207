package hardy

import (
	"cmp"
	"slices"

	"provost/api"
)

// tightFirst is a problem with its steps in another order: those that fewer users
// may do stand first. Who can do the free steps does not hang on the order, and in
// this one solve mostly comes upon a plan sooner.
func tightFirst(p api.Problem) api.Problem {
	order := make([]int, len(p.Who))
	for step := range order {
		order[step] = step
	}
	slices.SortStableFunc(order, func(a, b int) int { return cmp.Compare(room(p, a), room(p, b)) })
	q := api.Problem{Users: p.Users}
	for _, step := range order {
		q.Who = append(q.Who, p.Who[step])
		q.Fixed = append(q.Fixed, p.Fixed[step])
	}
	for _, r := range p.Rules {
		r.Steps = placesIn(order, r.Steps)
		q.Rules = append(q.Rules, r)
	}
	return q
}

// room is how many users may do a step.
func room(p api.Problem, step int) int {
	if p.Fixed[step] != free {
		return 1
	}
	return of(p.Who[step]).Len()
}

// placesIn are the places at which some steps stand in an order, rising: rules ask
// for steps that rise.
func placesIn(order, steps []int) []int {
	var places []int
	for place, step := range order {
		if slices.Contains(steps, step) {
			places = append(places, place)
		}
	}
	return places
}
