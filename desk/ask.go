package desk

import (
	"strconv"
	"strings"

	"provost/api"
	"provost/core"
	"provost/flow"
	"provost/roll"
	"provost/rule"
)

// The calls that ask.

func (d *Desk) askInst(c api.Call) api.Reply {
	in := d.inst(c)
	lines := []string{"flow " + in.flow.Name}
	for i, step := range in.flow.Steps {
		s, _ := in.run.State(i)
		lines = append(lines, step.Name+" "+d.stateText(s))
	}
	return api.Reply{N: in.run.Status(), Lines: lines}
}

// askCan takes Check at its word: it tells what a claim would be answered.
func (d *Desk) askCan(c api.Call) api.Reply {
	var lines []string
	for _, step := range d.inst(c).flow.Steps {
		if d.Check(api.Call{Op: api.OpClaim, A: c.A, B: step.Name, N: c.N}) == api.OK {
			lines = append(lines, step.Name)
		}
	}
	return counted(lines)
}

func (d *Desk) askWho(c api.Call) api.Reply {
	var lines []string
	for _, user := range d.org.Users() {
		if d.Check(api.Call{Op: api.OpClaim, A: user, B: c.B, N: c.N}) == api.OK {
			lines = append(lines, user)
		}
	}
	return counted(lines)
}

func (d *Desk) askPlan(c api.Call) api.Reply {
	plan, why := d.gate.Plan(c.N)
	var lines []string
	for step, user := range plan {
		lines = append(lines, d.inst(c).flow.Steps[step].Name+" "+d.name(user))
	}
	return api.Reply{Err: why, N: len(lines), Lines: lines}
}

func (d *Desk) askWhy(c api.Call) api.Reply {
	in := d.inst(c)
	if in.run.Status() != api.Stuck {
		return api.Reply{}
	}
	p, _ := d.gate.Problem(c.N)
	rules, steps, _ := core.Why(p)
	names := stepNames(in.flow)
	var lines []string
	for _, place := range rules {
		text, _ := rule.Text(in.flow.Rules[place], names)
		lines = append(lines, text)
	}
	for _, step := range steps {
		lines = append(lines, "step "+names[step])
	}
	return counted(lines)
}

func (d *Desk) askLog(c api.Call) api.Reply {
	in := d.inst(c)
	var lines []string
	for _, e := range in.run.Log() {
		lines = append(lines, d.eventText(in.flow, e))
	}
	return counted(lines)
}

func (d *Desk) askUser(c api.Call) api.Reply {
	var lines []string
	for _, role := range d.org.Held(c.A) {
		lines = append(lines, "role "+role)
	}
	claims := d.claims(c.A)
	return api.Reply{N: len(claims), Lines: append(lines, claims...)}
}

// claims are the steps that a user has claimed and not completed.
func (d *Desk) claims(user string) []string {
	number, _ := d.org.Find(user)
	var lines []string
	for i, in := range d.insts {
		if !in.running() {
			continue
		}
		for j, step := range in.flow.Steps {
			if s, _ := in.run.State(j); s.State == api.Claimed && s.User == number {
				lines = append(lines, words("claim", strconv.Itoa(i+1), step.Name))
			}
		}
	}
	return lines
}

func (d *Desk) askFlow(c api.Call) api.Reply {
	f := d.flows[c.A]
	text, why := flow.Print(f)
	return api.Reply{Err: why, N: len(f.Steps), Lines: linesOf(text)}
}

func (d *Desk) askOrg(api.Call) api.Reply {
	return api.Reply{N: d.org.Size(), Lines: linesOf(roll.Print(d.org))}
}

func (d *Desk) askStuck(api.Call) api.Reply {
	var lines []string
	for i, in := range d.insts {
		if in.run.Status() == api.Stuck {
			lines = append(lines, strconv.Itoa(i+1))
		}
	}
	return counted(lines)
}

func (d *Desk) askNow(api.Call) api.Reply { return api.Reply{N: d.org.Now()} }

// counted is a reply whose N is how many Lines there are.
func counted(lines []string) api.Reply { return api.Reply{N: len(lines), Lines: lines} }

// name is the name of a user's number.
func (d *Desk) name(user int) string {
	name, _ := d.org.Name(user)
	return name
}

func (d *Desk) stateText(s api.State) string {
	switch s.State {
	case api.Claimed:
		return words("claimed", d.name(s.User), strconv.Itoa(s.ClaimedAt))
	case api.Completed:
		return words("done", d.name(s.User), strconv.Itoa(s.ClaimedAt), strconv.Itoa(s.DoneAt))
	}
	return "open"
}

// kinds are the words of events.
var kinds = [...]string{
	api.Started:     "started",
	api.WasClaimed:  "claim",
	api.WasDone:     "done",
	api.WasAborted:  "aborted",
	api.GotStuck:    "stuck",
	api.GotFree:     "free",
	api.WasFinished: "finished",
}

func (d *Desk) eventText(f api.Flow, e api.Event) string {
	text := words(strconv.Itoa(e.Tick), kinds[e.Kind])
	if e.Step < 0 {
		return text
	}
	return words(text, f.Steps[e.Step].Name, d.name(e.User))
}

func stepNames(f api.Flow) []string {
	var names []string
	for _, s := range f.Steps {
		names = append(names, s.Name)
	}
	return names
}

// words stand with a blank between two.
func words(parts ...string) string { return strings.Join(parts, " ") }

// linesOf are the lines of a text, each of which has a byte 10 at its end.
func linesOf(text string) []string {
	return strings.Split(strings.TrimSuffix(text, "\n"), "\n")
}
