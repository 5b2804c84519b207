package desk

import "provost/api"

// way is how the calls of an Op are answered.
type way struct {
	// errs change nothing that can be told. Each is asked only where those ahead of it
	// have found nothing wrong, and goes by that.
	errs []errOf
	// does is done where none of errs has found anything wrong.
	does func(*Desk, api.Call) api.Reply
}

// errOf is what is wrong with a call in one way, or OK.
type errOf func(*Desk, api.Call) api.Errno

// ways are those of all Ops.
func ways() map[int]way {
	type errs = []errOf
	return map[int]way{
		api.OpTick:   {errs{(*Desk).errTick}, (*Desk).tick},
		api.OpUser:   {errs{(*Desk).errNewUser}, (*Desk).user},
		api.OpNoUser: {errs{(*Desk).errUser}, (*Desk).noUser},
		api.OpRole:   {errs{(*Desk).errNewRole}, (*Desk).role},
		api.OpNoRole: {errs{(*Desk).errRole}, (*Desk).noRole},
		api.OpJoin:   turn((*Desk).join, (*Desk).leave),
		api.OpLeave:  turn((*Desk).leave, (*Desk).join),
		api.OpOver:   turn((*Desk).over, (*Desk).noOver),
		api.OpNoOver: turn((*Desk).noOver, (*Desk).over),
		api.OpGrant:  turn((*Desk).grant, (*Desk).revoke),
		api.OpRevoke: turn((*Desk).revoke, (*Desk).grant),
		api.OpBar:    turn((*Desk).bar, (*Desk).unbar),
		api.OpUnbar:  turn((*Desk).unbar, (*Desk).bar),
		api.OpLend:   turn((*Desk).lend, (*Desk).back),
		api.OpBack:   {errs{(*Desk).errBack}, only((*Desk).back)},
		api.OpRest:   turn((*Desk).rest, (*Desk).wake),
		api.OpWake:   turn((*Desk).wake, (*Desk).rest),

		api.OpFlow:  {errs{(*Desk).errNewFlow}, (*Desk).flow},
		api.OpStart: {errs{(*Desk).errFlow, (*Desk).errRoom}, (*Desk).start},
		api.OpClaim: {errs{(*Desk).errInst, (*Desk).errUser, (*Desk).errStep, (*Desk).errEnded, (*Desk).errClaimed, (*Desk).errOrder, (*Desk).errAuth}, (*Desk).claim},
		api.OpDone:  {errs{(*Desk).errInst, (*Desk).errNobody, (*Desk).errStep, (*Desk).errEnded, (*Desk).errUnclaimed, (*Desk).errDone, (*Desk).errHolder}, (*Desk).done},
		api.OpAbort: {errs{(*Desk).errInst, (*Desk).errEnded}, (*Desk).abort},

		api.AskInst:  {errs{(*Desk).errInst}, (*Desk).askInst},
		api.AskCan:   {errs{(*Desk).errInst, (*Desk).errUser}, (*Desk).askCan},
		api.AskWho:   {errs{(*Desk).errInst, (*Desk).errStep}, (*Desk).askWho},
		api.AskPlan:  {errs{(*Desk).errInst, (*Desk).errEnded, (*Desk).errStuck}, (*Desk).askPlan},
		api.AskWhy:   {errs{(*Desk).errInst, (*Desk).errEnded}, (*Desk).askWhy},
		api.AskLog:   {errs{(*Desk).errInst}, (*Desk).askLog},
		api.AskUser:  {errs{(*Desk).errUser}, (*Desk).askUser},
		api.AskFlow:  {errs{(*Desk).errFlow}, (*Desk).askFlow},
		api.AskOrg:   {nil, (*Desk).askOrg},
		api.AskStuck: {nil, (*Desk).askStuck},
		api.AskNow:   {nil, (*Desk).askNow},
	}
}

// turn is the way of what the organisation does, and of what would turn it back. The
// organisation alone knows what it refuses, and tells it only by doing: so it is
// asked by doing, and where it was done that is turned back at once.
func turn(do, undo errOf) way {
	asked := func(d *Desk, c api.Call) api.Errno {
		why := do(d, c)
		if why == api.OK {
			undo(d, c)
		}
		return why
	}
	return way{[]errOf{asked}, only(do)}
}

// only does something of which there is nothing more to tell.
func only(do errOf) func(*Desk, api.Call) api.Reply {
	return func(d *Desk, c api.Call) api.Reply { return api.Reply{Err: do(d, c)} }
}
