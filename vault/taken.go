package vault

import "provost/api"

// taken is a call with nothing but what its Op takes, and says whether it changes
// something; of one that does not it tells nothing.
func taken(c api.Call) (api.Call, bool) {
	bare := api.Call{Op: c.Op}
	switch c.Op {
	case api.OpLend, api.OpClaim, api.OpDone:
		bare.N = c.N
		fallthrough
	case api.OpJoin, api.OpLeave, api.OpOver, api.OpNoOver, api.OpGrant, api.OpRevoke, api.OpBar, api.OpUnbar, api.OpBack:
		bare.B = c.B
		fallthrough
	case api.OpUser, api.OpNoUser, api.OpRole, api.OpNoRole, api.OpRest, api.OpWake, api.OpStart:
		bare.A = c.A
	case api.OpTick, api.OpAbort:
		bare.N = c.N
	case api.OpFlow:
		bare.Text = c.Text
	default:
		return api.Call{}, false
	}
	return bare, true
}
