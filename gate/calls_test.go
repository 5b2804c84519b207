package gate_test

import (
	"fmt"
	"slices"
	"testing"

	"provost/api"
	"provost/gate"
	"provost/solve"
)

// P18.1

func TestOpenTellsWhatCheckRefuses(t *testing.T) {
	g := gate.New()
	for _, p := range wrong() {
		is(t, fmt.Sprint("Open of ", p), do(g, call{what: "Open", p: p}), told(solve.Check(p), false))
		if picture(g) != "[] map[]" || solve.Check(p) == api.OK {
			t.Fatalf("behind Open of %v: %s", p, picture(g))
		}
	}
	g.Open(0, start())
	was := picture(g)
	for _, p := range append(wrong(), start()) {
		is(t, fmt.Sprint("Open of ", p, " again"), do(g, call{what: "Open", p: p}), told(api.ErrTwice, false))
		if picture(g) != was {
			t.Fatalf("behind Open of %v: %s, not %s", p, picture(g), was)
		}
	}
}

// An id that was closed is free for another problem, and what was known of the one
// ahead of it is forgotten.
func TestOpenBehindClose(t *testing.T) {
	g := gate.New()
	for i, p := range drawn(5, 400) {
		_, can := tried(p)
		is(t, fmt.Sprint("Open of ", p), do(g, call{what: "Open", p: p}), told(api.OK, can))
		is(t, fmt.Sprint("Can of ", p), do(g, call{what: "Can"}), told(api.OK, can))
		if i%3 == 0 {
			do(g, call{what: "Plan"})
		}
		is(t, "Close", do(g, call{what: "Close"}), told(api.OK, true))
		is(t, "Close again", do(g, call{what: "Close"}), told(api.OK, false))
	}
}

func TestIDsRise(t *testing.T) {
	g := gate.New()
	all := []int{5, -1 << 63, 0, 1<<63 - 1, -1, 4095, 3, -77}
	for i, id := range all {
		g.Open(id, forAll(i%3, i%2))
		want := slices.Sorted(slices.Values(all[:i+1]))
		is(t, "IDs", do(g, of("IDs")), told(api.OK, want))
	}
	for i, id := range all {
		is(t, "Close", do(g, call{what: "Close", id: id}), told(api.OK, true))
		want := slices.Sorted(slices.Values(all[i+1:]))
		is(t, "IDs", do(g, of("IDs")), told(api.OK, want))
	}
}

// As many entries as there can be instances, and more.
func TestManyEntries(t *testing.T) {
	g := gate.New()
	many := 2 * api.MaxInsts
	for id := range many {
		g.Open(id, forAll(2, id%3, r(api.Apart, 0, 0, 1)))
	}
	for id := range many {
		is(t, "Can", do(g, call{what: "Can", id: id}), told(api.OK, id%3 == 2))
	}
	for id := 0; id < many; id += 2 {
		g.Close(id)
	}
	if l := g.IDs(); len(l) != many/2 || l[0] != 1 || l[len(l)-1] != many-1 {
		t.Error("IDs:", len(l))
	}
}

// At the limits of a problem.
func TestGreatestProblems(t *testing.T) {
	g := gate.New()
	all := upTo(12)
	rules := slices.Repeat([]api.Rule{r(api.Apart, 0, all...)}, 32)
	is(t, "12 steps, 64 users, 32 rules", do(g, call{what: "Open", id: 1, p: forAll(12, 64, rules...)}), told(api.OK, true))
	is(t, "Plan", do(g, of("Plan")), told(api.OK, all))
	for step := range 12 {
		is(t, "Try", do(g, claim("Try", 1, step, 63-step)), told(api.OK, true))
	}
	is(t, "Plan", do(g, of("Plan")), told(api.OK, u{63, 62, 61, 60, 59, 58, 57, 56, 55, 54, 53, 52}))
	is(t, "no steps", do(g, call{what: "Open", id: 2}), told(api.OK, true))
	is(t, "Plan of no steps", do(g, call{what: "Plan", id: 2}), told(api.OK, u{}))
	is(t, "Change of no steps", do(g, call{what: "Change", id: 2, p: api.Problem{Users: 64}}), told(api.OK, true))
	is(t, "Change to 65 users", do(g, call{what: "Change", id: 2, p: api.Problem{Users: 65}}), told(api.ErrTooBig, false))
	is(t, "a step of none", do(g, claim("Try", 2, 0, 0)), told(api.ErrArg, false))
}

// P18.2

func TestChangeTellsWhatCheckRefuses(t *testing.T) {
	g := gate.New()
	g.Open(1, start())
	g.Try(1, 2, 2)
	was := picture(g)
	for _, x := range []struct {
		users int
		who   []uint64
		want  api.Errno
	}{
		{65, who(u{0}, u{1}, u{2}), api.ErrTooBig},
		{1<<63 - 1, nil, api.ErrTooBig},
		{3, make([]uint64, 13), api.ErrTooBig},
		{-1, make([]uint64, 13), api.ErrTooBig},
		{-1, who(u{}, u{}, u{}), api.ErrArg},
		{-1 << 63, nil, api.ErrArg},
		{3, nil, api.ErrArg},
		{3, who(u{0}, u{1}), api.ErrArg},
		{3, who(u{0}, u{1}, u{2}, u{0}), api.ErrArg},
		{3, make([]uint64, 12), api.ErrArg},
		{3, who(u{0}, u{1}, u{3}), api.ErrArg},
		{63, who(u{63}, u{1}, u{2}), api.ErrArg},
		{2, who(u{0}, u{1}, u{0}), api.ErrArg}, // step 2 is fixed to user 2
		{0, who(u{}, u{}, u{}), api.ErrArg},
	} {
		is(t, fmt.Sprint("Change to ", x.users, x.who), do(g, call{what: "Change", id: 1, p: api.Problem{Users: x.users, Who: x.who}}), told(x.want, false))
		is(t, "of no entry", do(g, call{what: "Change", id: 2, p: api.Problem{Users: x.users, Who: x.who}}), told(api.ErrInst, false))
		if picture(g) != was {
			t.Fatalf("behind Change to %d, %v: %s, not %s", x.users, x.who, picture(g), was)
		}
		is(t, "Plan", do(g, of("Plan")), told(api.OK, u{0, 1, 2}))
	}
}

// Rights that are taken and given, by one step and user at a time: each is asked
// anew.
func TestChangeByOne(t *testing.T) {
	d := dice(33)
	turns := 0
	for _, p := range d.drawn(300) {
		if len(p.Who) == 0 || p.Users == 0 {
			continue
		}
		g, m := gate.New(), newModel(tried)
		last := check(t, g, m, call{what: "Open", p: p}).told
		for range 30 {
			q := api.Problem{Users: p.Users, Who: slices.Clone(m.entries[0].Who)}
			q.Who[d.draw(len(q.Who))] ^= 1 << d.draw(p.Users)
			now := check(t, g, m, call{what: "Change", p: q}).told
			if check(t, g, m, call{what: "Can"}).told != now {
				t.Fatalf("%v: Change says %s, Can does not", m.entries[0], now)
			}
			if now != last {
				turns++
			}
			last = now
		}
	}
	if turns < 500 {
		t.Error("turns:", turns)
	}
}

// Users whom there are more or fewer of: what is left of the plan that was known
// counts, and no more.
func TestChangeOfHowManyUsers(t *testing.T) {
	for users := range 8 {
		g, m := gate.New(), newModel(tried)
		check(t, g, m, call{what: "Open", p: forAll(3, users, r(api.Apart, 0, 0, 1, 2))})
		for others := range 8 {
			check(t, g, m, call{what: "Change", p: forAll(3, others)})
			check(t, g, m, call{what: "Plan"})
			check(t, g, m, call{what: "Change", p: forAll(3, users)})
		}
	}
}

// P18.3

func TestClaimTellsTheFirst(t *testing.T) {
	g := gate.New()
	g.Open(1, fixed(start(), -1, 1, -1))
	for _, what := range []string{"Ask", "Try"} {
		for _, x := range []struct {
			id, step, user int
			want           api.Errno
		}{
			{2, 9, 9, api.ErrInst}, {2, 1, 1, api.ErrInst}, {0, -1, -1, api.ErrInst},
			{1, 1, 3, api.ErrArg}, {1, 1, -1, api.ErrArg}, {1, 3, 1, api.ErrArg}, {1, -1, 1, api.ErrArg},
			{1, 1 << 62, 0, api.ErrArg}, {1, -1 << 63, 0, api.ErrArg}, {1, 0, 1 << 62, api.ErrArg}, {1, 0, -1 << 63, api.ErrArg}, {1, 0, 64, api.ErrArg},
			{1, 1, 1, api.ErrClaimed}, {1, 1, 0, api.ErrClaimed}, {1, 1, 2, api.ErrClaimed},
		} {
			is(t, fmt.Sprint(what, x), do(g, claim(what, x.id, x.step, x.user)), told(x.want, false))
		}
	}
}

// Every step with every user, of many problems, by Ask and by Try: they say the
// same, and Ask changes nothing.
func TestAskAndTrySayTheSame(t *testing.T) {
	d := dice(7)
	for _, p := range d.drawn(400) {
		for step := range p.Who {
			for user := range p.Users {
				g, m := gate.New(), newModel(tried)
				check(t, g, m, call{what: "Open", p: p})
				asked := check(t, g, m, claim("Ask", 0, step, user))
				again := check(t, g, m, claim("Ask", 0, step, user))
				done := check(t, g, m, claim("Try", 0, step, user))
				is(t, fmt.Sprint(p, step, user), again, asked)
				is(t, fmt.Sprint(p, step, user), done, asked)
				check(t, g, m, call{what: "Plan"})
			}
		}
	}
}

// A user whom Who has not for the step is not let through, though a plan would
// follow.
func TestClaimAsksWho(t *testing.T) {
	g := gate.New()
	g.Open(1, open(3, who(u{0, 1}, u{2})))
	for _, what := range []string{"Ask", "Try"} {
		is(t, what, do(g, claim(what, 1, 0, 2)), told(api.OK, false))
		is(t, what, do(g, claim(what, 1, 1, 0)), told(api.OK, false))
	}
	g.Open(2, open(64, who(u{63})))
	is(t, "Try", do(g, claim("Try", 2, 0, 62)), told(api.OK, false))
	is(t, "Try", do(g, claim("Try", 2, 0, 63)), told(api.OK, true))
}

// Where there is no plan, no claim is let through.
func TestClaimOfWhatIsStuck(t *testing.T) {
	g := gate.New()
	g.Open(1, open(2, who(u{0, 1}, u{}, u{0})))
	was := picture(g)
	for step := range 3 {
		for user := range 2 {
			for _, what := range []string{"Ask", "Try"} {
				is(t, what, do(g, claim(what, 1, step, user)), told(api.OK, false))
			}
		}
	}
	if picture(g) != was {
		t.Errorf("%s, not %s", picture(g), was)
	}
}

// P18.4

func TestPlanIsTheFirst(t *testing.T) {
	d := dice(44)
	some := 0
	for _, p := range d.drawn(1500) {
		g, m := gate.New(), newModel(tried)
		check(t, g, m, call{what: "Open", p: p})
		check(t, g, m, call{what: "Can"})
		if check(t, g, m, call{what: "Plan"}).err == api.OK {
			some++
		}
		check(t, g, m, call{what: "Plan"})
	}
	if some < 200 {
		t.Error("plans:", some)
	}
}

// The first plan is told, whatever plan was found ahead of it.
func TestPlanBehindOtherPlans(t *testing.T) {
	d := dice(45)
	for _, p := range d.drawnGreat(150) {
		g, m := gate.New(), newModel(solved)
		check(t, g, m, call{what: "Open", p: p})
		for step := range p.Who {
			check(t, g, m, claim("Ask", 0, step, d.draw(p.Users)))
			check(t, g, m, call{what: "Plan"})
		}
	}
}
