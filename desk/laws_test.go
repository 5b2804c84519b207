package desk_test

import (
	"fmt"
	"slices"
	"strconv"
	"strings"
	"testing"

	"provost/api"
	"provost/desk"
	"provost/rule"
)

// P22.5 to P22.7: the laws D1 to D4 of the whole.

// drawnTo is a desk behind a drawn script, with its model and the calls of it.
func (d *dice) drawnTo(many int) (*desk.Desk, *model, []api.Call) {
	it, m := desk.New(), newModel()
	calls := d.beginning()
	for range many {
		calls = append(calls, api.Call{})
	}
	for i := range calls {
		if calls[i].Op == 0 {
			calls[i] = d.drawn(m)
		}
		it.Do(calls[i])
		m.do(calls[i])
	}
	return it, m, calls
}

// behind is another desk behind the same calls.
func behind(calls []api.Call) *desk.Desk {
	d := desk.New()
	for _, c := range calls {
		d.Do(c)
	}
	return d
}

// let: do the three things of D1 hold of a claim?
func (m *model) let(s *story, step, user int) (ready, may, plan bool) {
	ready = !s.claimed(step) && s.ready(step)
	may = m.org.Can(m.name(user), s.flow.Steps[step].Duty)
	p := m.problem(s)
	for list := range lists(p, nil) {
		plan = plan || list[step] == user && !slices.ContainsFunc(p.Rules, func(x api.Rule) bool { return !keeps(x, list) })
	}
	return ready, may, plan
}

// D1: every claim by a known user of a step of an instance that is running, wherever
// a script has led.
func TestClaimsAreLetThroughJustIf(t *testing.T) {
	dice := dice(1)
	seen := map[string]int{}
	for i := range 150 {
		d, m, _ := dice.drawnTo(20 + i)
		for n, s := range m.insts {
			if !s.running() {
				continue
			}
			for step, name := range s.names() {
				for _, user := range m.org.Users() {
					number, _ := m.org.Find(user)
					ready, may, plan := m.let(s, step, number)
					why := d.Check(api.Call{Op: api.OpClaim, A: user, B: name, N: n + 1})
					if (why == api.OK) != (ready && may && plan) || (why == api.ErrDeadEnd) != (ready && may && !plan) {
						t.Fatalf("%s claims %s of %v: %v; ready: %v, may: %v, a plan: %v", user, name, m.steps(s), why, ready, may, plan)
					}
					seen[why.Error()]++
				}
			}
		}
	}
	for _, why := range []string{"ok", "dead end", "claimed", "too early", "not authorised"} {
		if seen[why] < 100 {
			t.Errorf("%s: %d times", why, seen[why])
		}
	}
}

// onward are the calls by which an instance can go on: completions by who claimed the
// step, and claims of whom the desk says that they may.
func onward(d *desk.Desk, n int) []api.Call {
	var l []api.Call
	for _, line := range d.Do(api.Call{Op: api.AskInst, N: n}).Lines[1:] {
		w := strings.Fields(line)
		if w[1] == "claimed" {
			l = append(l, api.Call{Op: api.OpDone, A: w[2], B: w[0], N: n})
		}
		for _, user := range d.Do(api.Call{Op: api.AskWho, B: w[0], N: n}).Lines {
			l = append(l, api.Call{Op: api.OpClaim, A: user, B: w[0], N: n})
		}
	}
	return l
}

// D2: whoever goes on finishes, by whatever way, with just as many claims and
// completions as were left; also while other instances go on.
func TestNobodyIsLedAstray(t *testing.T) {
	dice := dice(2)
	ends := 0
	for i := range 180 {
		d, m, calls := dice.drawnTo(5 + i)
		for n := range m.insts {
			d := behind(calls)
			in := d.Do(api.Call{Op: api.AskInst, N: n + 1})
			if in.N != api.Running {
				continue
			}
			text := strings.Join(in.Lines[1:], "\n") + "\n"
			claims := strings.Count(text, " open\n")
			left := [2]int{claims, strings.Count(text, " claimed ") + claims}
			for d.Do(api.Call{Op: api.AskInst, N: n + 1}).N == api.Running {
				on := onward(d, n+1)
				if len(on) == 0 {
					t.Fatalf("instance %d behind %v: %v goes on by nothing", n+1, calls, d.Do(api.Call{Op: api.AskInst, N: n + 1}))
				}
				c := one(&dice, on)
				if r := d.Do(c); r.Err != api.OK {
					t.Fatalf("instance %d behind %v: %v is answered %v", n+1, calls, c, r)
				}
				left[c.Op-api.OpClaim]--
				other := 1 + dice.draw(len(m.insts))
				if on := onward(d, other); other != n+1 && len(on) > 0 {
					d.Do(one(&dice, on))
				}
			}
			if in := d.Do(api.Call{Op: api.AskInst, N: n + 1}); in.N != api.Finished || left != [2]int{} {
				t.Fatalf("instance %d behind %v: %v, and %v left", n+1, calls, in, left)
			}
			ends++
		}
		if i == 0 && picture(d, m) != picture(behind(calls), m) {
			t.Fatal("a script tells another thing the second time")
		}
	}
	if ends < 200 {
		t.Error("ends:", ends)
	}
}

// D2: whatever rights are lost, who claimed a step completes it.
func TestCompletionsAreNotRefusedForRightsLost(t *testing.T) {
	dice := dice(5)
	many := 0
	for i := range 150 {
		d, m, _ := dice.drawnTo(30 + i)
		takers := []string{"norole r", "norole s", "norole t", "norole u", "nouser ann", "nouser bob", "nouser cyd", "nouser dan", "nouser eve"}
		if i%2 == 0 {
			takers = []string{"rest ann", "rest bob", "rest cyd", "rest dan", "rest eve", "bar ann a", "bar ann ask", "bar bob b", "revoke r a", "tick 9"}
		}
		for _, line := range takers {
			d.Do(of(line))
			m.do(of(line))
		}
		for n, s := range m.insts {
			for step, name := range s.names() {
				if !s.running() || !s.claimed(step) || s.done(step) {
					continue
				}
				many++
				c := api.Call{Op: api.OpDone, A: m.name(s.holder(step)), B: name, N: n + 1}
				if check(t, d, m, c).Err != api.OK {
					t.Fatalf("%v is refused", c)
				}
			}
		}
	}
	if many < 100 {
		t.Error("completions:", many)
	}
}

// D2: an instance is Stuck just if it has no plan; rights given never make one stuck,
// rights taken never free one.
func TestStuckIsWithoutAPlan(t *testing.T) {
	given := []int{api.OpUser, api.OpRole, api.OpJoin, api.OpOver, api.OpGrant, api.OpUnbar, api.OpLend, api.OpWake}
	dice := dice(6)
	turns := map[bool]int{}
	for range 80 {
		d, m, _ := dice.drawnTo(0)
		stuck := d.Do(of("stuck")).Lines
		for range 150 {
			c := dice.drawn(m)
			d.Do(c)
			m.do(c)
			was := stuck
			stuck = nil
			for n, s := range m.insts {
				if s.running() && least(m.problem(s)) == nil {
					stuck = append(stuck, strconv.Itoa(n+1))
				}
			}
			if got := d.Do(of("stuck")); !slices.Equal(got.Lines, stuck) {
				t.Fatalf("behind %v: %v are stuck, not %v", c, got.Lines, stuck)
			}
			if c.Op > api.OpWake {
				continue
			}
			gives := slices.Contains(given, c.Op)
			if gives && len(without(stuck, was)) > 0 || !gives && len(without(was, stuck)) > 0 {
				t.Fatalf("%v: %v were stuck, now %v", c, was, stuck)
			}
			if len(was) != len(stuck) {
				turns[gives]++
			}
		}
	}
	if turns[true] < 50 || turns[false] < 50 {
		t.Error("turns:", turns)
	}
}

// without are those of a list that are not in another one.
func without(l, others []string) []string {
	return slices.DeleteFunc(slices.Clone(l), func(x string) bool { return slices.Contains(others, x) })
}

// D3: what is finished is sound.
func TestWhatIsFinishedIsSound(t *testing.T) {
	dice := dice(7)
	ends := 0
	for range 60 {
		d, m, _ := dice.drawnTo(0)
		for range 250 {
			c := dice.drawn(m)
			if on := onward(d, 1+dice.draw(len(m.insts))); len(on) > 0 && dice.draw(2) == 0 {
				c = one(&dice, on)
			}
			could := true
			if s := m.instance(c); s != nil && c.Op == api.OpClaim {
				step := slices.Index(s.names(), c.B)
				could = step >= 0 && m.org.Can(c.A, s.flow.Steps[step].Duty)
			}
			if r := d.Do(c); r.Err == api.OK && !could {
				t.Fatalf("%v is let through", c)
			}
			m.do(c)
		}
		for n, s := range m.insts {
			if d.Do(api.Call{Op: api.AskInst, N: n + 1}).N == api.Finished {
				sound(t, d, m, n+1, s.flow)
				ends++
			}
		}
	}
	if ends < 100 {
		t.Error("ends:", ends)
	}
}

// instance is the one of a call's N, or nil.
func (m *model) instance(c api.Call) *story {
	if c.N < 1 || c.N > len(m.insts) {
		return nil
	}
	return m.insts[c.N-1]
}

// sound goes through what the desk tells of a finished instance: each rule holds of
// the steps' users, and no step was claimed ahead of the completion of another one
// that comes ahead of it.
func sound(t *testing.T, d *desk.Desk, m *model, n int, f api.Flow) {
	t.Helper()
	users := make([]int, len(f.Steps))
	var done []int
	log := d.Do(api.Call{Op: api.AskLog, N: n}).Lines
	for _, line := range log {
		w := strings.Fields(line)
		if len(w) < 4 {
			continue
		}
		step := slices.IndexFunc(f.Steps, func(s api.Step) bool { return s.Name == w[2] })
		number, _ := m.org.Number(w[3])
		switch w[1] {
		case "done":
			if users[step] != number {
				t.Fatalf("%d: %v: done by another user", n, log)
			}
			done = append(done, step)
		case "claim":
			users[step] = number
			for _, ahead := range f.Steps[step].After {
				if !slices.Contains(done, ahead) {
					t.Fatalf("%d: %v: %s came too early", n, log, w[2])
				}
			}
		}
	}
	slices.Sort(done)
	if broken := rule.Broken(f.Rules, users); len(broken) > 0 || len(slices.Compact(done)) != len(f.Steps) {
		t.Fatalf("%d: %v: the rules %v are broken", n, log, broken)
	}
}

// D4: what is told of an instance, and of the organisation, is the same where there
// are no others beside it.
func TestInstancesAreApart(t *testing.T) {
	dice := dice(8)
	for range 60 {
		_, m, calls := dice.drawnTo(150)
		for n := range m.insts {
			both, alone := desk.New(), desk.New()
			starts := 0
			for _, c := range calls {
				r := both.Do(c)
				number := c.N
				switch {
				case c.Op == api.OpStart && r.Err == api.OK:
					starts++
					if r.N != n+1 {
						continue
					}
					r.N = 1
				case slices.Contains([]int{api.OpClaim, api.OpDone, api.OpAbort, api.AskInst, api.AskCan, api.AskWho, api.AskPlan, api.AskWhy, api.AskLog}, c.Op):
					if number != n+1 || starts <= n {
						continue
					}
					c.N = 1
				case c.Op == api.AskUser || c.Op == api.AskStuck:
					continue
				}
				if got := alone.Do(c); said(got) != said(r) {
					t.Fatalf("%v: alone %s, beside others %s", c, said(got), said(r))
				}
			}
			for _, op := range []int{api.AskInst, api.AskLog, api.AskPlan, api.AskWhy} {
				a, b := alone.Do(api.Call{Op: op, N: 1}), both.Do(api.Call{Op: op, N: n + 1})
				if said(a) != said(b) {
					t.Fatalf("%d: alone %s, beside others %s", op, said(a), said(b))
				}
			}
		}
	}
}

// D6: too big is told where users, roles, flows and instances are made known, and
// never later: the greatest of all of them go on to their ends.
func TestTheGreatestGoOn(t *testing.T) {
	d := desk.New()
	d.Do(known(schema("f", 12, "apart s0, s1, s2, s3, s4, s5, s6, s7, s8, s9, s10, s11", "many 12 of s0, s1, s2, s3, s4, s5, s6, s7, s8, s9, s10, s11")))
	for i := range 64 {
		d.Do(of(fmt.Sprint("role r", i)))
		d.Do(of(fmt.Sprint("user u", i)))
		d.Do(of(fmt.Sprintf("join u%d r%d", i, i)))
		d.Do(of(fmt.Sprintf("grant r%d s%d", i, i%12)))
	}
	for range 4096 {
		if r := d.Do(of("start f")); r.Err != api.OK {
			t.Fatal(r)
		}
	}
	for i := range 12 {
		plays(t, d, fmt.Sprintf("claim u%d s%d 4096 = 0\ndone u%d s%d 4096 = 0", 48+i, i, 48+i, i))
	}
	if r := d.Do(of("inst 4096")); r.N != api.Finished {
		t.Error(r)
	}
	for i := range 6 {
		plays(t, d, fmt.Sprintf("nouser u%d = 0", 12*i))
	}
	if r := d.Do(of("stuck")); r.N != 4095 || r.Lines[4094] != "4095" {
		t.Error(r.N)
	}
	plays(t, d, "join u1 r0 = 0\nstuck = 0")
}
