package solve_test

import (
	"slices"
	"testing"

	"provost/api"
	"provost/solve"
)

// P12.6

// renamed is the problem whose user i is p's user to[i].
func renamed(p api.Problem, to []int) api.Problem {
	q := copied(p)
	for step := range q.Who {
		q.Who[step] = 0
		for i, user := range to {
			if p.Who[step]>>user&1 == 1 {
				q.Who[step] |= 1 << i
			}
			if p.Fixed[step] == user {
				q.Fixed[step] = i
			}
		}
	}
	return q
}

// shuffled are the numbers below n in some order.
func (d *dice) shuffled(n int) []int {
	l := upTo(n)
	for i := range l {
		j := i + d.draw(n-i)
		l[i], l[j] = l[j], l[i]
	}
	return l
}

func TestCanHangsNotOnUsersNumbers(t *testing.T) {
	d := dice(6)
	s := solve.New()
	yes, no := 0, 0
	for range 3000 {
		p := d.problem(1+d.draw(12), 1+d.draw(20), d.draw(6))
		can := s.Can(p)
		if other := renamed(p, d.shuffled(p.Users)); s.Can(other) != can {
			t.Fatalf("%v: Can %v; not so of %v", p, can, other)
		}
		if can {
			yes++
		} else {
			no++
		}
	}
	if yes < 100 || no < 100 {
		t.Error("problems with and without plans:", yes, no)
	}
}

// Nor does it hang on the steps' numbers, or on the order of the rules.
func TestCanHangsNotOnStepsNumbers(t *testing.T) {
	d := dice(8)
	s := solve.New()
	for range 2000 {
		p := d.problem(1+d.draw(12), 1+d.draw(8), d.draw(7))
		to := d.shuffled(len(p.Who))
		q := api.Problem{Users: p.Users, Who: make([]uint64, len(to)), Fixed: make([]int, len(to))}
		for step, place := range to {
			q.Who[place], q.Fixed[place] = p.Who[step], p.Fixed[step]
		}
		for _, x := range slices.Backward(p.Rules) {
			var steps []int
			for _, step := range x.Steps {
				steps = append(steps, to[step])
			}
			slices.Sort(steps)
			q.Rules = append(q.Rules, r(x.Kind, x.K, steps...))
		}
		if s.Can(p) != s.Can(q) {
			t.Fatalf("%v: Can %v; not so of %v", p, s.Can(p), q)
		}
	}
}

// A step that is not fixed is a user's in some plan just if Who has the user and
// there is a plan of the problem that Fix makes.
func TestCanOfFix(t *testing.T) {
	s := solve.New()
	for _, p := range drawn() {
		var plans [][]int
		for _, l := range model(p).candidates() {
			if model(p).keeps(l) {
				plans = append(plans, l)
			}
		}
		for step := range p.Who {
			for user := range p.Users {
				if p.Fixed[step] >= 0 {
					continue
				}
				q, err := solve.Fix(p, step, user)
				got := err == api.OK && p.Who[step]>>user&1 == 1 && s.Can(q)
				want := slices.ContainsFunc(plans, func(l []int) bool { return l[step] == user })
				if got != want {
					t.Fatalf("%v: step %d by %d: %v", p, step, user, got)
				}
			}
		}
	}
}
