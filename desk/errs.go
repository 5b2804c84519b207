package desk

import (
	"provost/api"
	"provost/bits"
	"provost/flow"
)

// What is wrong with calls of flows and instances.

// errNewFlow: can the flow of the Text not be made known?
func (d *Desk) errNewFlow(c api.Call) api.Errno {
	f, fault := flow.Parse(c.Text)
	_, twice := d.flows[f.Name]
	switch {
	case fault.Why != api.OK:
		return fault.Why
	case twice:
		return api.ErrTwice
	case len(d.flows) == api.MaxFlows:
		return api.ErrTooBig
	}
	return api.OK
}

// errFlow: is there no flow A?
func (d *Desk) errFlow(c api.Call) api.Errno {
	_, is := d.flows[c.A]
	return when(!is, api.ErrFlow)
}

// errRoom: are there too many instances for one more?
func (d *Desk) errRoom(api.Call) api.Errno {
	return when(len(d.insts) == api.MaxInsts, api.ErrTooBig)
}

// errInst: is there no instance N?
func (d *Desk) errInst(c api.Call) api.Errno {
	return when(c.N < 1 || c.N > len(d.insts), api.ErrInst)
}

func (d *Desk) errEnded(c api.Call) api.Errno {
	return when(!d.inst(c).running(), api.ErrEnded)
}

func (d *Desk) errStuck(c api.Call) api.Errno {
	return when(d.inst(c).run.Status() == api.Stuck, api.ErrDeadEnd)
}

// errStep: has the instance no step B?
func (d *Desk) errStep(c api.Call) api.Errno { return when(d.step(c) < 0, api.ErrStep) }

func (d *Desk) errClaimed(c api.Call) api.Errno {
	return when(d.state(c).State != api.Open, api.ErrClaimed)
}

func (d *Desk) errUnclaimed(c api.Call) api.Errno {
	return when(d.state(c).State == api.Open, api.ErrUnclaimed)
}

func (d *Desk) errDone(c api.Call) api.Errno {
	return when(d.state(c).State == api.Completed, api.ErrDone)
}

func (d *Desk) errHolder(c api.Call) api.Errno {
	user, _ := d.org.Number(c.A)
	return when(d.state(c).User != user, api.ErrHolder)
}

// errOrder: does something come ahead of the open step B that is not completed?
func (d *Desk) errOrder(c api.Call) api.Errno {
	var none bits.Set[uint64]
	return when(!none.Of(d.inst(c).run.Ready()).Has(d.step(c)), api.ErrOrder)
}

// errAuth: may the user A not do the step B now?
func (d *Desk) errAuth(c api.Call) api.Errno {
	return when(!d.org.Can(c.A, d.inst(c).flow.Steps[d.step(c)].Duty), api.ErrAuth)
}

// errDeadEnd: is there no plan behind a claim that nothing else refuses?
func (d *Desk) errDeadEnd(c api.Call) api.Errno {
	user, _ := d.org.Find(c.A)
	may, _ := d.gate.Ask(c.N, d.step(c), user)
	return when(!may, api.ErrDeadEnd)
}
