// Package house has no code, only tests of what holds in all layers.
package house

import (
	"testing"

	"provost/api"
)

func TestLimits(t *testing.T) {
	for _, x := range []struct {
		name      string
		got, want int
	}{
		{"MaxSteps", api.MaxSteps, 12}, {"MaxUsers", api.MaxUsers, 64}, {"MaxRoles", api.MaxRoles, 64}, {"MaxRules", api.MaxRules, 32},
		{"MaxFlows", api.MaxFlows, 64}, {"MaxInsts", api.MaxInsts, 4096}, {"MaxName", api.MaxName, 24}, {"MaxText", api.MaxText, 65536},
		{"MaxTick", api.MaxTick, 999999999}, {"MaxNumber", api.MaxNumber, 999999999}, {"MaxCount", api.MaxCount, 65536},
		{"MaxBell", api.MaxBell, 25}, {"MaxOrder", api.MaxOrder, 64}, {"BlockSize", api.BlockSize, 16}, {"MaxBlocks", api.MaxBlocks, 65536}, {"MaxRecord", api.MaxRecord, 131072},
	} {
		if x.got != x.want {
			t.Errorf("%s: %d, not %d", x.name, x.got, x.want)
		}
	}
}

func TestErrors(t *testing.T) {
	seen := map[string]api.Errno{}
	for _, x := range []struct {
		got  api.Errno
		want int
	}{
		{api.OK, 0}, {api.ErrArg, 1}, {api.ErrTooBig, 2}, {api.ErrForm, 3}, {api.ErrName, 4}, {api.ErrTwice, 5}, {api.ErrCycle, 6}, {api.ErrClock, 7},
		{api.ErrUser, 20}, {api.ErrRole, 21}, {api.ErrDuty, 22}, {api.ErrFlow, 23}, {api.ErrInst, 24}, {api.ErrStep, 25}, {api.ErrLink, 26},
		{api.ErrEnded, 30}, {api.ErrClaimed, 31}, {api.ErrOrder, 32}, {api.ErrAuth, 33}, {api.ErrDeadEnd, 34}, {api.ErrUnclaimed, 35}, {api.ErrHolder, 36}, {api.ErrDone, 37},
		{api.ErrDown, 50}, {api.ErrSpace, 51}, {api.ErrCorrupt, 52}, {api.ErrCall, 60},
	} {
		if int(x.got) != x.want {
			t.Errorf("%v: %d, not %d", x.got, int(x.got), x.want)
		}
		if other, twice := seen[x.got.Error()]; twice {
			t.Errorf("%d and %d have one word: %v", int(other), int(x.got), x.got)
		}
		seen[x.got.Error()] = x.got
	}
}
