package gate_test

import (
	"fmt"
	"testing"

	"provost/api"
	"provost/gate"
)

// P18.5

func TestGaugeOfANewGate(t *testing.T) {
	if g := gate.New().Gauge(); g != (api.Gauge{}) {
		t.Error("a new gauge:", g)
	}
}

// An entry of which nothing is known costs work, and more of them more.
func TestGaugeCountsAllEntries(t *testing.T) {
	g := gate.New()
	var was api.Gauge
	for id := range 5 {
		g.Open(id, start())
		now := g.Gauge()
		if now.Nodes <= was.Nodes || now.Pairs <= was.Pairs || now.Edges <= was.Edges {
			t.Errorf("from %v to %v", was, now)
		}
		was = now
	}
	for id := range 5 {
		g.Close(id)
	}
	if g.Gauge() != was {
		t.Errorf("behind Close: from %v to %v", was, g.Gauge())
	}
}

// What is refused, and what looks for no plan, costs nothing.
func TestGaugeOfRefusals(t *testing.T) {
	g := gate.New()
	g.Open(1, fixed(start(), -1, 1, -1))
	g.Open(2, open(3, who(u{}, u{0})))
	calls := []call{
		of("Problem"), of("IDs"), {what: "Problem", id: 9}, {what: "Close", id: 9},
		{what: "Can", id: 9}, {what: "Plan", id: 9}, {what: "Change", id: 9}, claim("Ask", 9, 0, 0), claim("Try", 9, 0, 0),
		claim("Ask", 1, 3, 0), claim("Try", 1, 0, 3), claim("Ask", 1, 1, 0), claim("Try", 1, 1, 0), claim("Try", 1, 1, 1),
		changed(0), changed(2, u{0}, u{1}, u{2}), changed(65), {what: "Open", id: 1, p: start()}, {what: "Close", id: 2},
	}
	for _, p := range wrong() {
		calls = append(calls, call{what: "Open", id: 3, p: p}, call{what: "Open", id: 1, p: p})
	}
	for _, c := range calls {
		if a := do(g, c); a.bound != 0 {
			t.Errorf("%v: %s, %v, and the gauge rises by %d", c, a.told, a.err, a.bound)
		}
	}
}

// hard are problems that take long: much is to be gone through ahead of a plan, or
// till it is seen that there is none.
func hard() []api.Problem {
	all := upTo(12)
	late := forAll(12, 12, r(api.Apart, 0, 0, 11), r(api.Apart, 0, 1, 11), r(api.Apart, 0, 2, 10), r(api.Apart, 0, 3, 10), r(api.Many, 9, all...))
	late.Who[0], late.Who[1], late.Who[11] = word(5, 6), word(5, 7), word(5)
	late.Who[2], late.Who[3], late.Who[10] = word(8, 9), word(8, 10), word(8)
	return []api.Problem{
		late,
		forAll(12, 11, r(api.Apart, 0, all...)),
		forAll(12, 64, r(api.Many, 8, all...), r(api.Few, 3, all[:6]...), r(api.Few, 4, all[6:]...)),
		forAll(12, 12, r(api.Many, 8, all...), r(api.Few, 4, all[:6]...), r(api.Few, 4, all[6:]...)),
		forAll(12, 64, r(api.Few, 2, all...), r(api.Most, 6, all...)),
		forAll(12, 5, r(api.Most, 2, all...)),
	}
}

func TestGaugeOfHardProblems(t *testing.T) {
	for _, p := range hard() {
		g, m := gate.New(), newModel(solved)
		check(t, g, m, call{what: "Open", p: p})
		for _, c := range []call{{what: "Can"}, {what: "Plan"}, claim("Ask", 0, 11, 5), claim("Try", 0, 0, p.Users-1), {what: "Plan"}, {what: "Change", p: forAll(12, p.Users)}, {what: "Change", p: p}, {what: "Plan"}} {
			check(t, g, m, c)
		}
	}
}

// The bound of Change is that of the new problem, which may be less.
func TestGaugeOfChangeToFewerUsers(t *testing.T) {
	for users := 64; users >= 0; users-- {
		g, m := gate.New(), newModel(solved)
		check(t, g, m, call{what: "Open", p: forAll(3, 64, r(api.Apart, 0, 0, 1))})
		check(t, g, m, call{what: "Change", p: forAll(3, users)})
		check(t, g, m, call{what: "Change", p: forAll(3, 64)})
	}
}

// Plans that are kept, and what is known of stuck entries, spare work: without this
// each change in the organisation would cost a search for each instance.
func TestWhatIsKnownSparesWork(t *testing.T) {
	for _, p := range hard() {
		g := gate.New()
		can, _ := g.Open(0, p)
		fewer := api.Problem{Users: p.Users, Who: append([]uint64{}, p.Who...)}
		calls := []call{{what: "Can"}, {what: "Change", p: p}, {what: "Can"}}
		if can {
			plan, _ := g.Plan(0)
			calls = append(calls, claim("Ask", 0, 0, 0)) // refused of the first, which leaves the plan known
			for step := range p.Who {
				calls = append(calls, claim("Ask", 0, step, plan[step]), claim("Try", 0, step, plan[step]))
			}
			fewer.Who = who()
			for _, user := range plan {
				fewer.Who = append(fewer.Who, word(user))
			}
		} else {
			fewer.Who[3] = 0
			calls = append(calls, claim("Ask", 0, 1, 1), claim("Try", 0, 1, 1), call{what: "Plan"})
		}
		for _, c := range append(calls, call{what: "Change", p: fewer}) {
			if a := do(g, c); a.bound != 0 {
				t.Errorf("%v, %v: the gauge rises by %d", p, c.what, a.bound)
			}
		}
	}
}

// Who else might have done a step that is fixed already is nothing new to what is
// stuck.
func TestRightsForFixedStepsSpareWork(t *testing.T) {
	g := gate.New()
	g.Open(1, fixed(open(3, who(u{}, u{}, u{2})), 1, -1, -1))
	a := do(g, changed(3, u{0, 1, 2}, u{}, u{2}))
	is(t, "Change", a, told(api.OK, false))
	if a.bound != 0 {
		t.Errorf("Change: the gauge rises by %d", a.bound)
	}
	is(t, "Change", do(g, changed(3, u{}, u{0}, u{2})), told(api.OK, true))
}

// A claim that was asked for is let through without another search.
func TestWhatWasAskedSparesWork(t *testing.T) {
	d := dice(3)
	for _, p := range d.drawnGreat(200) {
		g := gate.New()
		g.Open(0, p)
		for step := range p.Who {
			for user := range p.Users {
				if ok, _ := g.Ask(0, step, user); ok {
					a := do(g, claim("Try", 0, step, user))
					is(t, fmt.Sprint(p, step, user), a, told(api.OK, true))
					if a.bound != 0 {
						t.Fatalf("%v: Try(%d, %d): the gauge rises by %d", p, step, user, a.bound)
					}
				}
			}
		}
	}
}
