package solve

import (
	"provost/api"
	"provost/match"
	"provost/part"
)

// Solver solves problems, and counts its work.
type Solver struct{ work api.Gauge }

// New makes one.
func New() *Solver { return &Solver{} }

// Can: has the problem a plan?
func (s *Solver) Can(p api.Problem) bool {
	if Check(p) != api.OK {
		return false
	}
	// Whether there is a plan does not hang on the steps' order; how long it takes
	// to see that there is none does.
	_, is := s.first(reordered(p, tightest(p)))
	return is
}

// Least is the first plan of a problem.
func (s *Solver) Least(p api.Problem) ([]int, bool) {
	// Of a problem without a plan this is seen sooner.
	if !s.Can(p) {
		return nil, false
	}
	return s.first(p)
}

// Gauge is the work so far.
func (s *Solver) Gauge() api.Gauge { return s.work }

// first is the first plan of a problem that Check takes: of the first pattern
// whose rules are kept and whose blocks can have users of their own.
func (s *Solver) first(p api.Problem) ([]int, bool) {
	l := newLook(p, &s.work)
	found := part.Search(len(p.Who), 1, l.keep)
	if len(found) == 0 {
		return nil, false
	}
	rows := l.levels[len(p.Who)].rows()
	users, is := match.Least(rows)
	s.work.Edges += edges(rows, len(rows)+len(rows)*len(rows))
	plan := make([]int, len(p.Who))
	for step, block := range found[0] {
		plan[step] = users[block]
	}
	return plan, is
}
