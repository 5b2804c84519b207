package desk_test

import (
	"fmt"
	"testing"

	"provost/api"
	"provost/desk"
)

// R2 to R4, and P22.3.

// picture is all that a desk tells.
func picture(d *desk.Desk, m *model) string {
	text := ""
	for _, c := range all(m) {
		text += fmt.Sprintln(c, said(d.Do(c)))
	}
	return text
}

// tried are calls of each Op, many of which are not refused where they are asked.
func (d *dice) tried(m *model) []api.Call {
	l := []api.Call{of("tick 1"), of("tick 100"), of("user new"), of("user ann"), of("role new"), of("norole r"), of("start zed"), known("flow new\nstep a\nend\n"), known(pay), {Op: 77}}
	for range 60 {
		l = append(l, d.drawn(m))
	}
	for _, loan := range m.org.Loans() {
		l = append(l, api.Call{Op: api.OpBack, A: loan.From, B: loan.To})
	}
	return l
}

// Check changes nothing, whatever it is asked, and so does whatever is refused.
func TestNothingChanges(t *testing.T) {
	dice := dice(3)
	for range 25 {
		d, m := desk.New(), newModel()
		for _, c := range dice.beginning() {
			check(t, d, m, c)
		}
		for range 120 {
			check(t, d, m, dice.drawn(m))
		}
		was := picture(d, m)
		asked := dice.tried(m)
		for _, c := range asked {
			d.Check(c)
			if now := picture(d, m); now != was {
				t.Fatalf("behind Check of %v: %s, not %s", c, now, was)
			}
		}
		for _, c := range asked {
			if d.Check(c) == api.OK {
				continue
			}
			d.Do(c)
			if now := picture(d, m); now != was {
				t.Fatalf("behind %v, which was refused: %s, not %s", c, now, was)
			}
		}
		// Nor does it show in what is done behind it.
		for _, c := range asked {
			check(t, d, m, c)
		}
	}
}

// Names that were only asked for have no number.
func TestCheckGivesNoNumbers(t *testing.T) {
	d := desk.New()
	for i := range 100 {
		for _, line := range []string{"user u", "role r"} {
			if why := d.Check(of(fmt.Sprint(line, i))); why != api.OK {
				t.Fatal(line, i, why)
			}
		}
		if why := d.Check(known(schema(fmt.Sprint("f", i), 1))); why != api.OK {
			t.Fatal("flow", i, why)
		}
	}
	plays(t, d, "org = 0 org 1|end\nuser v = 0\nrole s = 0\norg = 1 org 1|user v|role s|end\nshow f7 = no such flow\ndone u3 a 1 = no such instance")
}

// What an Op does not take is not looked at.
func TestOtherFieldsAreNotLookedAt(t *testing.T) {
	dice := dice(9)
	for range 60 {
		d, m := desk.New(), newModel()
		calls := dice.beginning()
		for i := range len(calls) + 150 {
			if i >= len(calls) {
				calls = append(calls, dice.drawn(m))
			}
			c := calls[i]
			want := m.do(c)
			c = dice.strewn(c)
			why := d.Check(c)
			if got := d.Do(c); told(c, got) != told(c, want) || why != want.Err {
				t.Fatalf("%v: %s, not %s", c, told(c, got), told(c, want))
			}
		}
	}
}

// strewn is the call with something in all fields that its Op does not take.
func (d *dice) strewn(c api.Call) api.Call {
	c.C = one(d, []string{"ann", "a", ""})
	other := api.Call{A: one(d, []string{"ann", "", "Z"}), B: one(d, []string{"a", "r", "Z"}), N: d.draw(5) - 1, Text: one(d, []string{pay, "x"})}
	a, b, n := fields(c.Op)
	if !a {
		c.A = other.A
	}
	if !b {
		c.B = other.B
	}
	if !n {
		c.N = other.N
	}
	if c.Op != api.OpFlow {
		c.Text = other.Text
	}
	return c
}

// fields are those that an Op takes.
func fields(op int) (a, b, n bool) {
	switch op {
	case api.OpTick, api.OpAbort, api.AskInst, api.AskPlan, api.AskWhy, api.AskLog:
		return false, false, true
	case api.OpFlow, api.AskOrg, api.AskStuck, api.AskNow:
		return false, false, false
	case api.OpLend, api.OpClaim, api.OpDone:
		return true, true, true
	case api.AskCan:
		return true, false, true
	case api.AskWho:
		return false, true, true
	case api.OpJoin, api.OpLeave, api.OpOver, api.OpNoOver, api.OpGrant, api.OpRevoke, api.OpBar, api.OpUnbar, api.OpBack:
		return true, true, false
	}
	return true, false, false
}

// What is told is the caller's own, its spare room too, and stays as it was told.
func TestAnswersAreTheCallersOwn(t *testing.T) {
	dice := dice(12)
	for range 40 {
		d, m := desk.New(), newModel()
		var kept []api.Reply
		was := ""
		calls := dice.beginning()
		for i := range len(calls) + 120 {
			if i >= len(calls) {
				calls = append(calls, dice.drawn(m))
			}
			r := check(t, d, m, calls[i])
			again := d.Do(api.Call{Op: api.AskLog, N: 1})
			for j := range cap(again.Lines) {
				again.Lines[:cap(again.Lines)][j] = "spoilt"
			}
			kept = append(kept, r)
			was += said(r)
		}
		now := ""
		for _, r := range kept {
			now += said(r)
		}
		if now != was {
			t.Fatalf("%s has become %s", was, now)
		}
		for i := range kept {
			for j := range cap(kept[i].Lines) {
				kept[i].Lines[:cap(kept[i].Lines)][j] = "spoilt"
			}
		}
		for _, c := range all(m) {
			check(t, d, m, c)
		}
	}
}

// The same script at two desks is answered the same, the gauge too; another desk
// between them changes nothing.
func TestTheSameScriptTwice(t *testing.T) {
	dice := dice(31)
	for range 20 {
		one, other, third, m := desk.New(), desk.New(), desk.New(), newModel()
		calls := dice.beginning()
		for i := range len(calls) + 150 {
			if i >= len(calls) {
				calls = append(calls, dice.drawn(m))
			}
			c := calls[i]
			m.do(c)
			a := said(one.Do(c))
			third.Do(dice.drawn(m))
			if b := said(other.Do(c)); a != b || one.Gauge() != other.Gauge() {
				t.Fatalf("%v: %s, %s; %v, %v", c, a, b, one.Gauge(), other.Gauge())
			}
		}
	}
}
