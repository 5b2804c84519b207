package audit

import (
	"provost/api"
	"provost/rule"
	"provost/run"
)

// firstTick is when it began. (Without events nothing did: no run has such a log.)
func firstTick(log []api.Event) int {
	if len(log) == 0 {
		return 0
	}
	return log[0].Tick
}

// again makes the one call that can have laid the event. (A run's start and its
// end are laid by what is done ahead of them.)
func again(r *run.Run, e api.Event) {
	switch e.Kind {
	case api.WasClaimed:
		r.Claim(e.Step, e.User, e.Tick)
	case api.WasDone:
		r.Done(e.Step, e.User, e.Tick)
	case api.WasAborted:
		r.Abort(e.Tick)
	case api.GotStuck, api.GotFree:
		r.Mark(e.Kind == api.GotStuck, e.Tick)
	}
}

// keepable: can the steps that are open still get users by whom the rule is kept?
func keepable(x api.Rule, r *run.Run) bool {
	var users, places []int
	for i, step := range x.Steps {
		// An open step is known by its state alone: users may be any numbers.
		if s, _ := r.State(step); s.State != api.Open {
			users = append(users, s.User)
		}
		places = append(places, i)
	}
	// A rule asks nothing of the order of its steps, so those that have users may come first.
	return rule.Early(api.Rule{Kind: x.Kind, K: x.K, Steps: places}, len(places), users)
}

// ticking: does the clock of the events stay within its bounds, and never go back?
func ticking(log []api.Event) bool {
	last := 0
	for _, e := range log {
		if e.Tick < last || e.Tick > api.MaxTick {
			return false
		}
		last = e.Tick
	}
	return true
}
