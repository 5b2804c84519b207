package desk_test

import (
	"fmt"
	"strings"
	"testing"

	"provost/api"
	"provost/desk"
	"provost/part"
)

// P22.4, and with it D7.

func sum(g api.Gauge) uint64 { return g.Nodes + g.Pairs + g.Edges }

// bound is that of an instance of n steps.
func bound(n, users int) uint64 {
	bell, _ := part.Bell(n)
	m := uint64(n + 1)
	return 4 * m * m * m * uint64(users+1) * bell
}

// most is what a call that was answered so may raise the gauge by; m is the model
// behind it.
func most(m *model, c api.Call, why api.Errno) uint64 {
	users := m.org.Size()
	ofN := func(times int) uint64 {
		n := len(m.insts[c.N-1].flow.Steps)
		return uint64(times) * bound(n, users)
	}
	switch {
	case why == api.ErrDeadEnd && c.Op == api.OpClaim:
		return ofN(1)
	case why != api.OK:
		return 0
	case c.Op <= api.OpWake:
		all := uint64(0)
		for _, s := range m.insts {
			if s.running() {
				all += bound(len(s.flow.Steps), users)
			}
		}
		return all
	case c.Op == api.OpStart:
		return bound(len(m.insts[len(m.insts)-1].flow.Steps), users)
	case c.Op == api.OpClaim || c.Op == api.AskPlan:
		return ofN(1)
	case c.Op == api.AskCan:
		return ofN(len(m.insts[c.N-1].flow.Steps))
	case c.Op == api.AskWho:
		return ofN(users)
	case c.Op == api.AskWhy:
		return ofN(2*len(m.insts[c.N-1].flow.Steps) + 33)
	}
	return 0
}

// rises holds what a gauge has risen by against what it may.
func rises(t *testing.T, d *desk.Desk, what string, was api.Gauge, most uint64) {
	t.Helper()
	now := d.Gauge()
	if now.Nodes < was.Nodes || now.Pairs < was.Pairs || now.Edges < was.Edges || sum(now)-sum(was) > most {
		t.Fatalf("%s: from %v to %v, of %d", what, was, now, most)
	}
}

func TestGaugeOfANewDesk(t *testing.T) {
	if g := desk.New().Gauge(); g != (api.Gauge{}) {
		t.Error(g)
	}
}

func TestGaugeOfDrawnScripts(t *testing.T) {
	dice := dice(4)
	for range 60 {
		d, m := desk.New(), newModel()
		calls := dice.beginning()
		for i := range len(calls) + 200 {
			if i >= len(calls) {
				calls = append(calls, dice.drawn(m))
			}
			c, was := calls[i], d.Gauge()
			why := d.Check(c)
			asked := uint64(0)
			if c.Op == api.OpClaim {
				asked = most(m, c, why)
			}
			rises(t, d, fmt.Sprint("Check of ", c), was, asked)
			was = d.Gauge()
			d.Do(c)
			m.do(c)
			rises(t, d, fmt.Sprint(c), was, most(m, c, why))
		}
	}
}

// counts does a call, and tells by how much the gauge has risen.
func counts(t *testing.T, d *desk.Desk, line string) uint64 {
	t.Helper()
	was := sum(d.Gauge())
	if r := d.Do(of(line)); r.Err != api.OK {
		t.Fatal(line, r)
	}
	return sum(d.Gauge()) - was
}

// A start costs work, and so does whatever takes its plan away or may give it one.
func TestGaugeCounts(t *testing.T) {
	d := at(t, []string{pay}, "user ann\nuser bob\nuser cyd\nrole r\ngrant r ask\ngrant r approve\njoin ann r\njoin bob r")
	for _, line := range []string{"start pay", "start pay", "rest ann", "wake ann", "claim bob ask 1"} {
		if counts(t, d, line) == 0 {
			t.Error(line, "was no work")
		}
	}
}

// What is not of the instances that run, and what changes nobody's rights, is no work.
func TestGaugeOfWhatIsNoWork(t *testing.T) {
	d := at(t, []string{pay}, "user ann\nuser bob\nuser cyd\nrole r\ngrant r ask\ngrant r approve\njoin ann r\njoin bob r\nstart pay\nstart pay\nclaim ann ask 1\ndone ann ask 1\nclaim bob sign 1")
	for _, line := range []string{"inst 1", "log 1", "whois ann", "show pay", "org", "stuck", "now", "done bob sign 1", "inst 1", "log 1", "can ann 1", "who ask 1", "abort 2", "rest bob", "nouser ann", "tick 3", "can bob 2", "who ask 2", "inst 2"} {
		if n := counts(t, d, line); n != 0 {
			t.Errorf("%s: the gauge rose by %d", line, n)
		}
	}
	for _, line := range []string{"start pay", "stuck", "inst 3"} {
		counts(t, d, line)
	}
	was := d.Gauge()
	plays(t, d, "plan 3 = dead end\nplan 2 = ended\nstart zed = no such flow\nclaim bob sign 3 = too early\nclaim bob ask 3 = not authorised")
	rises(t, d, "refusals", was, 0)
}

// hard is a flow of twelve steps whose plans are few, or none.
func hard(name string, rules ...string) string {
	all := strings.Join(strings.Fields(strings.ReplaceAll("s0 s1 s2 s3 s4 s5 s6 s7 s8 s9 s10 s11", " ", ", ")), " ")
	for i, x := range rules {
		rules[i] = strings.ReplaceAll(x, "ALL", all)
	}
	return schema(name, 12, rules...)
}

func TestGaugeOfHardFlows(t *testing.T) {
	const users = 16
	d := desk.New()
	d.Do(of("role r"))
	for i := range 12 {
		d.Do(of(fmt.Sprint("grant r s", i)))
	}
	for i := range users {
		d.Do(of(fmt.Sprint("user u", i)))
		d.Do(of(fmt.Sprintf("join u%d r", i)))
	}
	flows := []string{
		hard("f", "apart ALL"),
		hard("g", "many 8 of ALL", "few 4 of s0, s1, s2, s3, s4, s5", "few 4 of s6, s7, s8, s9, s10, s11"),
		hard("h", "most 2 of ALL", "few 6 of ALL", "same s0, s11"),
		hard("i", "few 2 of ALL", "most 6 of ALL"),
	}
	n := bound(12, users)
	for i, text := range flows {
		d.Do(known(text))
		was := d.Gauge()
		d.Do(api.Call{Op: api.OpStart, A: string(rune('f' + i))})
		rises(t, d, "start", was, n)
	}
	for i := range users - 3 {
		line := fmt.Sprint("rest u", i)
		was := d.Gauge()
		d.Do(of(line))
		rises(t, d, line, was, 4*n)
		for id := range flows {
			for line, most := range map[string]uint64{
				fmt.Sprint("plan ", id+1): n, fmt.Sprint("why ", id+1): 57 * n,
				fmt.Sprintf("claim u%d s%d %d", users-1-i%3, i%12, id+1): n, fmt.Sprintf("can u15 %d", id+1): 12 * n, fmt.Sprintf("who s11 %d", id+1): users * n,
			} {
				was := d.Gauge()
				d.Do(of(line))
				rises(t, d, line, was, most)
			}
		}
	}
	plays(t, d, "stuck = 3 1|2|3")
}
