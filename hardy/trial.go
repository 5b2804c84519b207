package hardy

import (
	"provost/api"
	"provost/solve"
)

// free stands in Fixed for a step that is nobody's yet.
const free = -1

// trial tries out whose loss a problem bears.
type trial struct {
	p      api.Problem
	solver *solve.Solver
	// doers has for each plan that was found those who do its free steps: the plan
	// is left whoever is lost beside them, so that few losses need a search. (Three
	// users whose loss is searched meet all doers found before, and not those that
	// they find; of sets of three and of twelve so there are at most 455 pairs.)
	doers []set
}

func newTrial(p api.Problem) *trial { return &trial{p: tightFirst(p), solver: solve.New()} }

// bears: is there a plan with these users lost?
func (t *trial) bears(lost set) bool {
	for _, d := range t.doers {
		if !d.Meets(lost) {
			return true
		}
	}
	plan, is := t.solver.Least(less(t.p, lost))
	if is {
		t.doers = append(t.doers, t.doing(plan))
	}
	return is
}

// doing are those who do the free steps of a plan.
func (t *trial) doing(plan []int) set {
	var d set
	for step, user := range plan {
		if t.p.Fixed[step] == free {
			d = d.Or(only(user))
		}
	}
	return d
}

// weak is the first set of so many users whose loss the problem does not bear.
func (t *trial) weak(many int) (set, bool) { return t.weakWith(set{}, 0, many) }

// weakWith is the first such set of those lost already and so many more, none of
// whom is below from.
func (t *trial) weakWith(lost set, from, more int) (set, bool) {
	if more == 0 {
		if t.bears(lost) {
			return set{}, false
		}
		return lost, true
	}
	for ahead := range t.p.Users - from {
		user := from + ahead
		if found, is := t.weakWith(lost.Or(only(user)), user+1, more-1); is {
			return found, true
		}
	}
	return set{}, false
}
