package solve_test

import (
	"testing"

	"provost/api"
	"provost/solve"
)

// The chapter's runs and examples.

func TestRunsOfLeast(t *testing.T) {
	apart := r(api.Apart, 0, 0, 1)
	for _, x := range []struct {
		p    api.Problem
		want []int
		is   bool
	}{
		{open(3, who(u{0, 1}, u{0, 1}, u{2}), apart), u{0, 1, 2}, true},
		{open(3, who(u{0, 1}, u{0, 1}, u{2})), u{0, 0, 2}, true},
		{open(3, who(u{0}, u{0}, u{2}), apart), nil, false},
		{with(open(3, who(u{0}, u{0}, u{2}), apart), -1, 1, -1), u{0, 1, 2}, true},
		{open(3, who(u{0, 1}, u{1, 2}, u{0, 2}), r(api.Same, 0, 0, 1), r(api.Apart, 0, 1, 2)), u{1, 1, 0}, true},
		{forAll(3, 3, r(api.Most, 1, 0, 1, 2)), u{0, 1, 2}, true},
		{forAll(3, 3, r(api.Few, 2, 0, 1, 2)), u{0, 0, 0}, true},
		{forAll(3, 3, r(api.Many, 3, 0, 1, 2)), u{0, 1, 2}, true},
		{api.Problem{}, nil, true},
		{api.Problem{Users: 3}, nil, true},
		{open(0, who(u{})), nil, false},
	} {
		checkFirst(t, x.p, x.want, x.is)
		check(t, x.p)
	}
}

func TestRunsOfBefore(t *testing.T) {
	for _, x := range []struct {
		a, b []int
		want bool
	}{
		{u{1, 1, 0}, u{0, 1, 2}, true},
		{u{0, 0, 1}, u{0, 0, 2}, true},
		{u{1, 1}, u{0, 0}, false},
		{u{0}, u{0, 0}, false},
	} {
		if solve.Before(x.a, x.b) != x.want {
			t.Errorf("Before(%v, %v): %v", x.a, x.b, !x.want)
		}
	}
}

func TestRunsOfCheck(t *testing.T) {
	good := forAll(2, 3)
	for _, x := range []struct {
		p    api.Problem
		want api.Errno
	}{
		{forAll(13, 3), api.ErrTooBig},
		{api.Problem{Users: 65}, api.ErrTooBig},
		{api.Problem{Users: -1}, api.ErrArg},
		{with(good, -1), api.ErrArg},
		{with(good, -1, -2), api.ErrArg},
		{open(3, who(u{3}, u{0})), api.ErrArg},
		{forAll(2, 3, r(api.Apart, 0, 1, 2)), api.ErrArg},
		{good, api.OK},
	} {
		if got := solve.Check(x.p); got != x.want {
			t.Errorf("Check(%v): %v, not %v", x.p, got, x.want)
		}
	}
}

// Fewer blocks at the beginning come first, whatever the users are.
func TestExampleOfFewerBlocks(t *testing.T) {
	for _, users := range []int{0, 1, 2, 63, -5} {
		if !solve.Before(u{users, users, 2}, u{0, 1, 2}) || solve.Before(u{0, 1, 2}, u{users, users, 2}) {
			t.Errorf("[%d %d 2] and [0 1 2]", users, users)
		}
	}
}

// A problem all of whose steps are fixed has just one plan, or none.
func TestExampleOfAllFixed(t *testing.T) {
	d := dice(3)
	for range 300 {
		p := d.problem(5, 4, 2)
		for step := range p.Fixed {
			p.Fixed[step] = d.draw(4)
		}
		if l := model(p).candidates(); len(l) != 1 {
			t.Fatal("the model has", l)
		}
		if kept := model(p).keeps(p.Fixed); kept {
			checkFirst(t, p, p.Fixed, true)
		} else {
			checkFirst(t, p, nil, false)
		}
	}
}
