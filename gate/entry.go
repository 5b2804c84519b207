package gate

import (
	"slices"

	"provost/api"
	"provost/solve"
)

// free stands in Fixed for a step that is nobody's yet.
const free = -1

// entry is a problem that solve takes, and what is known of it: whether it has a
// plan, and some plan of it, if so. It is never written into: what changes is laid
// in its place.
type entry struct {
	problem api.Problem
	can     bool
	plan    []int
}

// claim is the entry behind a claim: one without a plan, if it is not to be let
// through.
func (g *Gate) claim(id, step, user int) (entry, api.Errno) {
	e, is := g.entries[id]
	if !is {
		return entry{}, api.ErrInst
	}
	claimed, err := solve.Fix(e.problem, step, user)
	switch {
	case err != api.OK:
		return entry{}, err
	case e.problem.Fixed[step] != free:
		return entry{}, api.ErrClaimed
	case e.problem.Who[step]>>user&1 == 0:
		return entry{}, api.OK
	}
	return g.behind(e, claimed), api.OK
}

// behind is the entry of a problem that comes behind another entry's, with the
// same rules: often what is known of that one tells enough, and no search is needed.
func (g *Gate) behind(e entry, p api.Problem) entry {
	switch {
	case e.can && solve.Holds(p, e.plan):
		return entry{problem: p, can: true, plan: e.plan}
	case !e.can && !someMayMore(e.problem, p):
		return entry{problem: p}
	}
	return g.search(p)
}

// search is the entry of a problem of which nothing is known.
func (g *Gate) search(p api.Problem) entry {
	plan, can := g.solver.Least(p)
	return entry{problem: p, can: can, plan: plan}
}

// someMayMore: are there users who may do a step now and might not before? Where
// there are none, each plan of now was one of before.
func someMayMore(before, now api.Problem) bool {
	for step := range now.Who {
		if may(now, step)&^may(before, step) != 0 {
			return true
		}
	}
	return false
}

// may are the users that may do a step: of one that is fixed the user whose it is.
func may(p api.Problem, step int) uint64 {
	if user := p.Fixed[step]; user != free {
		return 1 << user
	}
	return p.Who[step]
}

// copyOf is the problem in memory of its own.
func copyOf(p api.Problem) api.Problem {
	p.Who, p.Fixed, p.Rules = slices.Clone(p.Who), slices.Clone(p.Fixed), slices.Clone(p.Rules)
	for i := range p.Rules {
		p.Rules[i].Steps = slices.Clone(p.Rules[i].Steps)
	}
	return p
}
