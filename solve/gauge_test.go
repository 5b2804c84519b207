package solve_test

import (
	"testing"

	"provost/api"
	"provost/solve"
)

// P12.5

func TestGaugeOfANewSolver(t *testing.T) {
	if g := solve.New().Gauge(); g != (api.Gauge{}) {
		t.Error("a new gauge:", g)
	}
}

// Over a Solver's life none of the numbers gets less, and no call raises them by
// more than it may.
func TestGaugeOfManyCalls(t *testing.T) {
	s := solve.New()
	was := s.Gauge()
	for i, p := range drawn() {
		if i%2 == 0 {
			s.Can(p)
		} else {
			s.Least(p)
		}
		now := s.Gauge()
		if less(now, was) || sum(now)-sum(was) > bound(p) {
			t.Fatalf("%v: from %v to %v, of %d", p, was, now, bound(p))
		}
		was = now
	}
	if was.Nodes == 0 || was.Pairs == 0 || was.Edges == 0 {
		t.Error("the gauge has counted", was)
	}
}

func TestGaugeCountsEachCall(t *testing.T) {
	for _, p := range []api.Problem{forAll(1, 1), forAll(2, 2), forAll(12, 64), forAll(3, 2, r(api.Apart, 0, 0, 1, 2))} {
		s := solve.New()
		for _, call := range []func(){func() { s.Can(p) }, func() { s.Least(p) }, func() { s.Can(p) }} {
			was := s.Gauge()
			call()
			if now := s.Gauge(); now.Nodes <= was.Nodes || now.Pairs <= was.Pairs || now.Edges <= was.Edges {
				t.Errorf("%v: from %v to %v", p, was, now)
			}
		}
	}
}

func TestGaugeOfWrongProblems(t *testing.T) {
	s := solve.New()
	s.Least(forAll(3, 3))
	was := s.Gauge()
	for _, p := range wrong() {
		s.Can(p)
		s.Least(p)
		if now := s.Gauge(); now != was {
			t.Fatalf("%v: from %v to %v", p, was, now)
		}
	}
	solve.Check(forAll(3, 3))
	solve.Fix(forAll(3, 3), 0, 0)
	solve.Holds(forAll(3, 3), u{0, 0, 0})
	if now := s.Gauge(); now != was {
		t.Errorf("from %v to %v", was, now)
	}
}

// Of few steps there is little that may be counted.
func TestGaugeOfTheLeastProblems(t *testing.T) {
	for users := range 65 {
		for n := range 3 {
			p := forAll(n, users)
			_, is := solve.New().Least(p)
			s := solve.New()
			s.Least(p)
			if sum(s.Gauge()) > bound(p) || is != (n == 0 || users > 0) {
				t.Errorf("%d steps, %d users: %v, %v", n, users, s.Gauge(), is)
			}
		}
	}
}

// The most patterns that can be gone into: what cannot be kept stands at the end
// both of the steps and of those with few users ahead of those with more.
func TestGaugeOfALongSearch(t *testing.T) {
	p := forAll(12, 64, r(api.Few, 1, 10, 11), r(api.Many, 2, 10, 11))
	for step := range 10 {
		p.Who[step] = 1<<63 - 1
	}
	s := solve.New()
	if s.Can(p) || sum(s.Gauge()) > bound(p) {
		t.Error("the gauge:", s.Gauge(), bound(p))
	}
	if plan, is := s.Least(p); is || sum(s.Gauge()) > 2*bound(p) {
		t.Error("the gauge:", plan, s.Gauge(), bound(p))
	}
}

// Two Solvers count apart.
func TestGaugesAreApart(t *testing.T) {
	a, b := solve.New(), solve.New()
	a.Can(forAll(4, 4))
	if b.Gauge() != (api.Gauge{}) {
		t.Error("the other gauge:", b.Gauge())
	}
	b.Can(forAll(4, 4))
	if a.Gauge() != b.Gauge() {
		t.Error("the gauges:", a.Gauge(), b.Gauge())
	}
}
