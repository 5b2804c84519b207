package gate_test

import (
	"fmt"
	"testing"

	"provost/api"
	"provost/gate"
)

// P18.6

// ask is all that a gate tells of an entry: its plan, and who may claim what.
func ask(g *gate.Gate, id int) string {
	p, _ := g.Problem(id)
	can, _ := g.Can(id)
	text := fmt.Sprint(p, can)
	for step := range p.Who {
		for user := range p.Users {
			text += fmt.Sprintln(do(g, claim("Ask", id, step, user)).told)
		}
	}
	plan, err := g.Plan(id)
	return text + fmt.Sprint(plan, err)
}

// A gate that has been through a script, and one that was handed the problem that
// came of it, tell the same.
func TestAnswersHangOnTheProblemAlone(t *testing.T) {
	d := dice(66)
	for _, p := range append(d.drawn(150), d.drawnGreat(60)...) {
		g, m := gate.New(), newModel(solved)
		g.Open(0, p)
		m.entries[0] = p
		for range 25 {
			c := d.call(m, func() api.Problem { return p })
			c.id = 0
			do(g, c)
			m.do(c)
			q, err := g.Problem(0)
			if err != api.OK {
				break
			}
			fresh := gate.New()
			fresh.Open(0, q)
			if got, want := ask(g, 0), ask(fresh, 0); got != want {
				t.Fatalf("%v: %s, not %s", q, got, want)
			}
		}
	}
}

// Entries know nothing of each other.
func TestEntriesAreApart(t *testing.T) {
	d := dice(67)
	for range 60 {
		p, q := d.problem(4, 4, 2, 9), d.problem(5, 3, 2, 9)
		both, alone := gate.New(), gate.New()
		both.Open(1, p)
		both.Open(2, q)
		alone.Open(1, p)
		for range 20 {
			c := claim("Try", 1, d.draw(4), d.draw(4))
			do(both, claim("Try", 2, d.draw(5), d.draw(3)))
			is(t, fmt.Sprint(c), do(both, c), do(alone, c))
		}
		both.Close(2)
		if got, want := ask(both, 1), ask(alone, 1); got != want {
			t.Fatalf("%v: %s, not %s", p, got, want)
		}
	}
}

// Whoever goes by a plan comes to the end, in whatever order, whatever else is
// asked on the way.
func TestWhoeverGoesByAPlan(t *testing.T) {
	d := dice(68)
	ends := 0
	for i, p := range append(d.drawn(800), d.drawnGreat(200)...) {
		g := gate.New()
		if can, _ := g.Open(0, p); !can {
			continue
		}
		plan, err := g.Plan(0)
		if err != api.OK {
			t.Fatalf("%v: Can, and Plan is answered %v", p, err)
		}
		for _, step := range d.shuffled(len(plan)) {
			if p.Fixed[step] != -1 {
				continue
			}
			if i%2 == 0 {
				do(g, claim("Ask", 0, d.draw(len(plan)), d.draw(p.Users)))
			}
			is(t, fmt.Sprint(p, plan, step), do(g, claim("Ask", 0, step, plan[step])), told(api.OK, true))
			is(t, fmt.Sprint(p, plan, step), do(g, claim("Try", 0, step, plan[step])), told(api.OK, true))
		}
		is(t, fmt.Sprint(p), do(g, call{what: "Plan"}), told(api.OK, plan))
		q, _ := g.Problem(0)
		is(t, "Fixed", told(api.OK, q.Fixed), told(api.OK, plan))
		ends++
	}
	if ends < 300 {
		t.Error("ends:", ends)
	}
}

// Whoever claims what is let through comes to the end, too: each step that is left
// is let through for somebody.
func TestWhoeverClaimsWhatIsLetThrough(t *testing.T) {
	d := dice(69)
	for _, p := range append(d.drawn(400), d.drawnGreat(100)...) {
		g := gate.New()
		if can, _ := g.Open(0, p); !can {
			continue
		}
		for _, step := range d.shuffled(len(p.Who)) {
			through := p.Fixed[step] != -1
			for _, user := range d.shuffled(p.Users) {
				if ok, _ := g.Try(0, step, user); ok {
					through = true
				}
			}
			if can, _ := g.Can(0); !through || !can {
				t.Fatalf("%v: nobody may do step %d", p, step)
			}
		}
	}
}

// drawn are problems of a few steps and users.
func drawn(from dice, many int) []api.Problem { return from.drawn(many) }

// shuffled are the numbers ahead of n in some order.
func (d *dice) shuffled(n int) []int {
	l := upTo(n)
	for i := range l {
		j := i + d.draw(n-i)
		l[i], l[j] = l[j], l[i]
	}
	return l
}
