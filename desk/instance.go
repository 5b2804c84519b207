package desk

import (
	"provost/api"
	"provost/flow"
	"provost/run"
)

// instance is one that was started. Its flow is never written into.
type instance struct {
	flow api.Flow
	run  *run.Run
	// users and who are those of its problem, if it is running.
	users int
	who   []uint64
}

func (in *instance) running() bool {
	status := in.run.Status()
	return status == api.Running || status == api.Stuck
}

// inst is the instance N, which is there.
func (d *Desk) inst(c api.Call) *instance { return d.insts[c.N-1] }

// step is the number of the step B of the instance N, or -1.
func (d *Desk) step(c api.Call) int { return flow.Find(d.inst(c).flow, c.B) }

// state is how that step stands.
func (d *Desk) state(c api.Call) api.State {
	s, _ := d.inst(c).run.State(d.step(c))
	return s
}

// The calls that change flows and instances.

func (d *Desk) flow(c api.Call) api.Reply {
	f, fault := flow.Parse(c.Text)
	d.flows[f.Name] = f
	return api.Reply{Err: fault.Why, N: len(f.Steps)}
}

func (d *Desk) start(c api.Call) api.Reply {
	f := d.flows[c.A]
	r, why := run.New(f, d.org.Now())
	if why != api.OK {
		return api.Reply{Err: why}
	}
	in := &instance{flow: f, run: r, users: d.org.Size(), who: d.rights()(f)}
	d.insts = append(d.insts, in)
	id := len(d.insts)
	can, _ := d.gate.Open(id, api.Problem{Users: in.users, Who: in.who, Fixed: r.Fixed(), Rules: f.Rules})
	r.Mark(!can, d.org.Now())
	return api.Reply{N: id}
}

func (d *Desk) claim(c api.Call) api.Reply {
	step := d.step(c)
	user, _ := d.org.Find(c.A)
	// A claim that is let through leaves the instance a plan: it needs no mark.
	if may, _ := d.gate.Try(c.N, step, user); !may {
		return api.Reply{Err: api.ErrDeadEnd}
	}
	return api.Reply{Err: d.inst(c).run.Claim(step, user, d.org.Now())}
}

func (d *Desk) done(c api.Call) api.Reply {
	user, _ := d.org.Number(c.A)
	why := d.inst(c).run.Done(d.step(c), user, d.org.Now())
	if !d.inst(c).running() {
		d.gate.Close(c.N)
	}
	return api.Reply{Err: why}
}

func (d *Desk) abort(c api.Call) api.Reply {
	why := d.inst(c).run.Abort(d.org.Now())
	d.gate.Close(c.N)
	return api.Reply{Err: why}
}
