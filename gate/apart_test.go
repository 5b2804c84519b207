package gate_test

import (
	"fmt"
	"slices"
	"testing"

	"provost/api"
	"provost/gate"
)

// R2: what is handed in stays as it is, its spare room too, and is not kept; what
// is told is the caller's own, its spare room too.

// roomy is a list in memory of its own, with spare room.
func roomy[T any](l []T) []T { return append(make([]T, 0, len(l)+3), l...) }

// copied is a problem of the same numbers, all of whose lists are roomy.
func copied(p api.Problem) api.Problem {
	p.Who, p.Fixed, p.Rules = roomy(p.Who), roomy(p.Fixed), roomy(p.Rules)
	for i := range p.Rules {
		p.Rules[i].Steps = roomy(p.Rules[i].Steps)
	}
	return p
}

// memory is all that stands in a problem's memory, its spare room too.
func memory(p api.Problem) string {
	text := fmt.Sprint(p)
	for _, x := range p.Rules {
		text += fmt.Sprint(x.Steps[:cap(x.Steps)])
	}
	return text + fmt.Sprint(p.Who[:cap(p.Who)], p.Fixed[:cap(p.Fixed)], p.Rules[:cap(p.Rules)])
}

// spoil writes into a list and into its spare room.
func spoil[T any](l []T, with T) {
	for i := range cap(l) {
		l[:cap(l)][i] = with
	}
}

// ruin writes into all memory that a problem has.
func ruin(p api.Problem) {
	for _, x := range p.Rules {
		spoil(x.Steps, -9)
	}
	spoil(p.Rules, r(99, -9, -9))
	spoil(p.Who, 1<<63)
	spoil(p.Fixed, -9)
}

// use calls all that can be called of an entry, and more than once.
func use(g *gate.Gate, p api.Problem) {
	for step := range p.Who {
		g.Ask(0, step, step)
		g.Change(0, p.Users, p.Who)
		g.Try(0, step, 0)
		g.Plan(0)
		g.Problem(0)
	}
}

func TestArgumentsStay(t *testing.T) {
	d := dice(21)
	for _, p := range slices.Concat(d.drawn(200), d.drawnGreat(40), wrong()) {
		given := copied(p)
		was := memory(given)
		g := gate.New()
		g.Open(0, given)
		g.Open(0, given)
		use(g, given)
		g.Change(0, 65, given.Who)
		if now := memory(given); now != was {
			t.Fatalf("%s has become %s", was, now)
		}
	}
}

// What Open and Change were handed may be ruined behind them.
func TestArgumentsAreNotKept(t *testing.T) {
	d := dice(22)
	for _, p := range append(d.drawn(300), d.drawnGreat(40)...) {
		g, other := gate.New(), gate.New()
		given := copied(p)
		g.Open(0, given)
		ruin(given)
		other.Open(0, p)
		if got, want := ask(g, 0), ask(other, 0); got != want {
			t.Fatalf("behind Open: %s, not %s", got, want)
		}
		more := d.words(len(p.Who), p.Users)
		words := roomy(more)
		g.Change(0, p.Users, words)
		spoil(words, 1<<63)
		other.Change(0, p.Users, more)
		if got, want := ask(g, 0), ask(other, 0); got != want {
			t.Fatalf("behind Change: %s, not %s", got, want)
		}
	}
}

// What Problem, Plan and IDs told may be ruined, and stays whatever is done behind.
func TestAnswersAreTheCallersOwn(t *testing.T) {
	d := dice(23)
	for _, p := range append(d.drawn(300), d.drawnGreat(40)...) {
		g, m := gate.New(), newModel(solved)
		check(t, g, m, call{what: "Open", p: p})
		told, _ := g.Problem(0)
		plan, _ := g.Plan(0)
		ids := g.IDs()
		want := fmt.Sprint(told, plan, ids)
		q, _ := g.Problem(0)
		ruin(q)
		l, _ := g.Plan(0)
		spoil(l, -9)
		spoil(g.IDs(), -9)
		for range 10 {
			c := d.call(m, func() api.Problem { return p })
			check(t, g, m, c)
			l, _ := g.Plan(c.id)
			spoil(l, -9)
		}
		if got := fmt.Sprint(told, plan, ids); got != want {
			t.Fatalf("%s has become %s", want, got)
		}
	}
}

// A plan that was told and spoilt is not gone by.
func TestSpoiltPlans(t *testing.T) {
	g := gate.New()
	g.Open(1, start())
	for range 2 {
		l, _ := g.Plan(1)
		l[0], l[1] = 0, 0
		is(t, "Can", do(g, of("Can")), told(api.OK, true))
		is(t, "Change", do(g, changed(3, u{0, 1}, u{1}, u{2})), told(api.OK, true))
		is(t, "Ask", do(g, claim("Ask", 1, 1, 0)), told(api.OK, false))
		is(t, "Ask", do(g, claim("Ask", 1, 1, 1)), told(api.OK, true))
		is(t, "Plan", do(g, of("Plan")), told(api.OK, u{0, 1, 2}))
	}
	whole, spoilt := gate.New(), gate.New()
	for _, g := range []*gate.Gate{whole, spoilt} {
		g.Open(1, start())
		l, _ := g.Plan(1)
		if g == spoilt {
			spoil(l, -9)
		}
		g.Try(1, 1, 1)
	}
	if whole.Gauge() != spoilt.Gauge() {
		t.Errorf("behind a spoilt plan: %v, not %v", spoilt.Gauge(), whole.Gauge())
	}
}

// No two lists of what Problem told share memory, though those of what was handed
// in do.
func TestListsOfAProblemAreApart(t *testing.T) {
	steps := u{0, 1, 2}
	p := fixed(forAll(3, 3, r(api.Apart, 0, steps...), r(api.Most, 1, steps...), r(api.Many, 3, steps...)), steps...)
	want := fmt.Sprint(p)
	g := gate.New()
	g.Open(0, p)
	for i := range 4 {
		q, _ := g.Problem(0)
		for j, l := range []*[]int{&q.Rules[0].Steps, &q.Rules[1].Steps, &q.Rules[2].Steps, &q.Fixed} {
			if j == i {
				spoil(*l, -9)
				*l = u{0, 1, 2}
			}
		}
		if again, _ := g.Problem(0); fmt.Sprint(q) != want || fmt.Sprint(again) != want || fmt.Sprint(p) != want {
			t.Errorf("spoilt with list %d: %v, %v, %v", i, q, again, p)
		}
	}
}

// R4: the same script at two gates is answered the same, the gauge too.
func TestTheSameScriptTwice(t *testing.T) {
	d := dice(24)
	one, other, m := gate.New(), gate.New(), newModel(solved)
	for range 1500 {
		c := d.call(m, func() api.Problem { return d.problem(d.draw(9), d.draw(9), d.draw(5), 9) })
		m.do(c)
		is(t, fmt.Sprint(c), do(one, c), do(other, c))
		if one.Gauge() != other.Gauge() {
			t.Fatalf("%v: %v, %v", c, one.Gauge(), other.Gauge())
		}
	}
}
