package gate_test

import (
	"fmt"
	"testing"

	"provost/api"
	"provost/gate"
)

// The chapter's runs and examples.

// is holds what was told against what must be.
func is(t *testing.T, what string, got, want answer) {
	t.Helper()
	if got.told != want.told || got.err != want.err {
		t.Errorf("%s: %s, %v; not %s, %v", what, got.told, got.err, want.told, want.err)
	}
}

// start is a problem of three steps and users, the first two of which are apart.
func start() api.Problem {
	return open(3, who(u{0, 1}, u{0, 1}, u{2}), r(api.Apart, 0, 0, 1))
}

func changed(users int, lists ...[]int) call {
	return call{what: "Change", id: 1, p: api.Problem{Users: users, Who: who(lists...)}}
}

func claim(what string, id, step, user int) call {
	return call{what: what, id: id, step: step, user: user}
}

func of(what string) call { return call{what: what, id: 1} }

func TestRuns(t *testing.T) {
	behind := open(3, who(u{0}, u{0}, u{2}), r(api.Apart, 0, 0, 1))
	g := gate.New()
	for _, x := range []struct {
		c    call
		want answer
	}{
		{call{what: "Open", id: 1, p: start()}, told(api.OK, true)},
		{call{what: "Open", id: 1, p: start()}, told(api.ErrTwice, false)},
		{call{what: "Open", id: 2, p: forAll(13, 3)}, told(api.ErrTooBig, false)},
		{claim("Ask", 1, 0, 0), told(api.OK, true)},
		{claim("Try", 1, 0, 0), told(api.OK, true)},
		{claim("Ask", 1, 1, 0), told(api.OK, false)},
		{claim("Try", 1, 1, 0), told(api.OK, false)},
		{claim("Try", 1, 0, 1), told(api.ErrClaimed, false)},
		{claim("Ask", 1, 0, 3), told(api.ErrArg, false)},
		{claim("Ask", 1, 3, 0), told(api.ErrArg, false)},
		{claim("Ask", 7, 0, 0), told(api.ErrInst, false)},
		{of("Plan"), told(api.OK, u{0, 1, 2})},
		{changed(3, u{0}, u{0}, u{2}), told(api.OK, false)},
		{of("Can"), told(api.OK, false)},
		{of("Plan"), told(api.ErrDeadEnd, u{})},
		{of("Problem"), told(api.OK, fixed(behind, 0, -1, -1))},
		{changed(4, u{0}, u{3}, u{2}), told(api.OK, true)},
		{of("Plan"), told(api.OK, u{0, 3, 2})},
		{changed(0), told(api.ErrArg, false)},
		{of("IDs"), told(api.OK, u{1})},
		{of("Close"), told(api.OK, true)},
		{of("Close"), told(api.OK, false)},
		{of("Can"), told(api.ErrInst, false)},
	} {
		is(t, fmt.Sprint(x.c), do(g, x.c), x.want)
	}
}

// A step that is fixed stays so, whatever Change says of who may do it.
func TestExampleOfAFixedStep(t *testing.T) {
	g := gate.New()
	g.Open(1, start())
	g.Try(1, 0, 1)
	for _, c := range []call{changed(3, u{0}, u{0}, u{0}), changed(3, u{}, u{0}, u{0}), changed(3, u{0, 2}, u{0}, u{0})} {
		is(t, "Change", do(g, c), told(api.OK, true))
		is(t, "Plan", do(g, of("Plan")), told(api.OK, u{1, 0, 0}))
		is(t, "Try", do(g, claim("Try", 1, 0, 0)), told(api.ErrClaimed, false))
		p, _ := g.Problem(1)
		if fmt.Sprint(p.Fixed) != "[1 -1 -1]" {
			t.Error("Fixed:", p.Fixed)
		}
	}
}

// Two Gates know nothing of each other.
func TestExampleOfTwoGates(t *testing.T) {
	one, other := gate.New(), gate.New()
	one.Open(1, start())
	one.Try(1, 0, 0)
	is(t, "IDs", do(other, of("IDs")), told(api.OK, u{}))
	is(t, "Can", do(other, of("Can")), told(api.ErrInst, false))
	if other.Gauge() != (api.Gauge{}) {
		t.Error("Gauge:", other.Gauge())
	}
	is(t, "Open", do(other, call{what: "Open", id: 1, p: start()}), told(api.OK, true))
	is(t, "Try", do(other, claim("Try", 1, 0, 1)), told(api.OK, true))
	is(t, "Plan of one", do(one, of("Plan")), told(api.OK, u{0, 1, 2}))
	is(t, "Plan of the other", do(other, of("Plan")), told(api.OK, u{1, 0, 2}))
	is(t, "Close", do(other, of("Close")), told(api.OK, true))
	is(t, "Can", do(one, of("Can")), told(api.OK, true))
}
