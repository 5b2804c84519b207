package solve_test

import (
	"slices"
	"testing"

	"provost/api"
	"provost/solve"
)

// R2: what is handed in stays as it is, its spare room too, and is not kept; what
// is told is the caller's own, its spare room too.

const mark = 77

// roomy is a list with spare room that is marked.
func roomy[T any](l []T, with T) []T {
	room := append(slices.Clone(l), with, with, with)
	return room[:len(l)]
}

// spoil writes into a list and into its spare room.
func spoil[T any](l []T, with T) {
	l = l[:cap(l)]
	for i := range l {
		l[i] = with
	}
}

// copied is a problem of the same numbers, in memory of its own.
func copied(p api.Problem) api.Problem {
	q := api.Problem{Users: p.Users, Who: roomy(p.Who, mark), Fixed: roomy(p.Fixed, mark)}
	for _, x := range p.Rules {
		q.Rules = append(q.Rules, r(x.Kind, x.K, roomy(x.Steps, mark)...))
	}
	q.Rules = roomy(q.Rules, r(mark, mark, mark))
	return q
}

// whole: is it still what copied made, its spare room too?
func whole(q, p api.Problem) bool {
	if !same(q, p) || !marked(q.Who, mark) || !marked(q.Fixed, mark) {
		return false
	}
	for _, x := range q.Rules {
		if !marked(x.Steps, mark) {
			return false
		}
	}
	last := q.Rules[:len(q.Rules)+3]
	return !slices.ContainsFunc(last[len(q.Rules):], func(x api.Rule) bool {
		return x.Kind != mark || x.K != mark || !slices.Equal(x.Steps, u{mark})
	})
}

// marked: has the list its marks behind it?
func marked[T comparable](l []T, with T) bool {
	return slices.Equal(l[len(l):len(l)+3], []T{with, with, with})
}

// ruin writes into all memory that a problem has.
func ruin(p api.Problem) {
	spoil(p.Who, 1<<63)
	spoil(p.Fixed, -9)
	for _, x := range p.Rules {
		spoil(x.Steps, -9)
	}
	spoil(p.Rules, r(99, -9, -9))
}

// several are problems with and without plans.
func several() []api.Problem {
	return append(drawn()[:300], forAll(12, 64, r(api.Apart, 0, upTo(12)...)), forAll(12, 11, r(api.Apart, 0, upTo(12)...)), api.Problem{})
}

func TestProblemsStay(t *testing.T) {
	for _, p := range append(several(), wrong()...) {
		given := copied(p)
		plan := roomy(make([]int, len(p.Who)), mark)
		s := solve.New()
		solve.Check(given)
		solve.Holds(given, plan)
		solve.Fix(given, 0, 0)
		solve.Fix(given, -1, 0)
		s.Can(given)
		s.Least(given)
		if !whole(given, p) {
			t.Fatalf("%v has become %v", p, given)
		}
		if !slices.Equal(plan, make([]int, len(p.Who))) || !marked(plan, mark) {
			t.Fatalf("a plan has become %v", plan)
		}
	}
}

func TestListsOfBeforeStay(t *testing.T) {
	for _, n := range []int{0, 1, 5, 25, 26} {
		a, b := make([]int, n), upTo(n)
		first, second := roomy(a, mark), roomy(b, mark)
		solve.Before(first, second)
		solve.Before(second, first)
		if !slices.Equal(first, a) || !slices.Equal(second, b) || !marked(first, mark) || !marked(second, mark) {
			t.Errorf("%d users: %v, %v", n, first, second)
		}
	}
}

// A problem that Fix made stays when the one that it was made of is ruined, and
// the other way round.
func TestFixSharesNothing(t *testing.T) {
	for _, p := range several() {
		if len(p.Who) == 0 || p.Users == 0 {
			continue
		}
		given := copied(p)
		first, err := solve.Fix(given, 0, 0)
		second, _ := solve.Fix(given, 0, 0)
		want := copied(p)
		want.Fixed[0] = 0
		ruin(first)
		if err != api.OK || !whole(given, p) || !same(second, want) {
			t.Fatalf("%v: ruined with the answer: %v, %v", p, given, second)
		}
		ruin(given)
		if !same(second, want) {
			t.Fatalf("%v: ruined with the argument: %v", p, second)
		}
	}
}

// No two lists of the problem that Fix makes share memory.
func TestListsOfFixAreApart(t *testing.T) {
	steps := u{0, 1, 2}
	p := open(3, who(u{0}, u{1}, u{2}), r(api.Apart, 0, steps...), r(api.Most, 1, steps...), r(api.Many, 3, steps...))
	for i := range p.Rules {
		q, _ := solve.Fix(p, 0, 0)
		spoil(q.Rules[i].Steps, -9)
		for j, x := range q.Rules {
			if j != i && !slices.Equal(x.Steps, steps) {
				t.Errorf("rule %d was spoilt with rule %d", j, i)
			}
		}
		if !slices.Equal(q.Fixed, u{0, -1, -1}) || !slices.Equal(q.Who, p.Who) {
			t.Error("spoilt:", q)
		}
	}
}

func TestPlansAreTheCallersOwn(t *testing.T) {
	s := solve.New()
	var kept, copies [][]int
	for _, p := range several() {
		first, _ := s.Least(p)
		second, is := s.Least(p)
		want := slices.Clone(first)
		spoil(first, -9)
		if third, again := s.Least(p); !slices.Equal(second, want) || !slices.Equal(third, want) || again != is {
			t.Fatalf("%v: spoilt with another answer: %v, %v; not %v", p, second, third, want)
		}
		kept, copies = append(kept, second), append(copies, want)
	}
	for i, l := range kept {
		if !slices.Equal(l, copies[i]) {
			t.Errorf("a plan that was told has become %v, from %v", l, copies[i])
		}
	}
}

// A problem that is asked about may be changed, and asked about again.
func TestProblemsAreNotKept(t *testing.T) {
	s := solve.New()
	p := forAll(2, 2, r(api.Apart, 0, 0, 1))
	plan, _ := s.Least(p)
	p.Rules[0] = r(api.Same, 0, 0, 1)
	other, _ := s.Least(p)
	p.Who[0], p.Fixed[1] = 0, 1
	if !slices.Equal(plan, u{0, 1}) || !slices.Equal(other, u{0, 0}) || s.Can(p) {
		t.Error("Least:", plan, other)
	}
}

// R4: what a Solver was asked before is not to be seen in what it answers.
func TestAnswersHangOnTheProblemAlone(t *testing.T) {
	s := solve.New()
	all := append(drawn(), wrong()...)
	for i, p := range all {
		other := all[(i*31+7)%len(all)]
		s.Can(other)
		s.Least(other)
		plan, is := s.Least(p)
		want, should := solve.New().Least(p)
		if !slices.Equal(plan, want) || is != should || s.Can(p) != should {
			t.Fatalf("%v behind %v: %v, %v; not %v, %v", p, other, plan, is, want, should)
		}
	}
}
