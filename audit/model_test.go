package audit_test

import (
	"fmt"
	"slices"
	"testing"

	"provost/api"
	"provost/flow"
	"provost/run"
)

// dice draws numbers, the same ones in every run of the tests.
type dice uint32

func (d *dice) below(n int) int {
	*d = *d*1664525 + 1013904223
	return int(uint64(*d>>8) * uint64(n) >> 24)
}

// event is one that is written in short.
func event(tick, kind, step, user int) api.Event {
	return api.Event{Tick: tick, Kind: kind, Step: step, User: user}
}

// flowOf is a flow whose step i comes behind those of the list i.
func flowOf(after ...[]int) api.Flow {
	f := api.Flow{Name: "f"}
	for i, l := range after {
		name := string(rune('a' + i))
		f.Steps = append(f.Steps, api.Step{Name: name, Duty: name, After: l})
	}
	return f
}

// loose is a flow of n steps, in no order.
func loose(n int) api.Flow { return flowOf(make([][]int, n)...) }

// drawn is a flow of n steps and some rules.
func (d *dice) drawn(n, rules int) api.Flow {
	after := make([][]int, n)
	for i := range n {
		for j := range i {
			if d.below(4) == 0 {
				after[i] = append(after[i], j)
			}
		}
	}
	f := flowOf(after...)
	for len(f.Rules) < rules {
		x := api.Rule{Kind: api.Apart + d.below(5)}
		for i := range n {
			if d.below(3) > 0 {
				x.Steps = append(x.Steps, i)
			}
		}
		if x.Kind > api.Same {
			x.K = 1 + d.below(3)
		}
		f.Rules = append(f.Rules, x)
		if flow.Check(f) != api.OK {
			f.Rules = f.Rules[:len(f.Rules)-1]
		}
	}
	return f
}

// call is a call that may change a run.
type call struct {
	what             int // the event that it lays
	step, user, tick int
}

func do(r *run.Run, c call) {
	switch c.what {
	case api.WasClaimed:
		r.Claim(c.step, c.user, c.tick)
	case api.WasDone:
		r.Done(c.step, c.user, c.tick)
	case api.WasAborted:
		r.Abort(c.tick)
	default:
		r.Mark(c.what == api.GotStuck, c.tick)
	}
}

// again is a run of the flow behind these calls.
func again(t testing.TB, f api.Flow, tick int, calls []call) *run.Run {
	t.Helper()
	r, why := run.New(f, tick)
	if why != api.OK {
		t.Fatalf("New of %v: %v", f, why)
	}
	for _, c := range calls {
		do(r, c)
	}
	return r
}

// drawnCalls are calls of a run of n steps, by few users, so that many are let
// through. The clock goes on, and now and then stands or, if it may, falls.
func (d *dice) drawnCalls(n, many int, falls bool) []call {
	var l []call
	tick := 1
	for range many {
		c := call{step: d.below(n), user: d.below(3) - 1}
		switch x := d.below(40); {
		case x < 16:
			c.what = api.WasClaimed
		case x < 34:
			c.what = api.WasDone
		case x < 36:
			c.what = api.GotStuck
		case x < 39 || d.below(5) > 0:
			c.what = api.GotFree
		default:
			c.what = api.WasAborted
		}
		tick += d.below(3)
		if falls && d.below(9) == 0 {
			tick -= d.below(5)
		}
		c.tick = tick
		l = append(l, c)
	}
	return l
}

// goOn brings a run to its end, by users of whom few do much.
func goOn(d *dice, r *run.Run, tick int) {
	for r.Status() == api.Running || r.Status() == api.Stuck {
		step := d.below(len(r.Fixed()))
		r.Claim(step, d.below(3), tick)
		if s, _ := r.State(step); d.below(2) == 0 {
			r.Done(step, s.User, tick+1)
		}
		tick += d.below(2)
	}
}

// oneOf is P23.1 by its words: are there a tick and calls that lay just these
// events? All calls that could lay the next event are tried, and many others.
func oneOf(t testing.TB, f api.Flow, log []api.Event) bool {
	if len(log) == 0 {
		return false
	}
	steps, users, ticks := []int{-1, len(f.Steps)}, []int{}, []int{}
	for i := range f.Steps {
		steps = append(steps, i)
	}
	for _, e := range log {
		users, ticks = append(users, e.User), append(ticks, e.Tick)
	}
	slices.Sort(users)
	slices.Sort(ticks)
	all := every(steps, slices.Compact(users), slices.Compact(ticks))
	for _, tick := range ticks {
		if lays(t, f, tick, nil, all, log) {
			return true
		}
	}
	return false
}

// every are all calls by these numbers.
func every(steps, users, ticks []int) []call {
	var all []call
	for _, tick := range ticks {
		for _, what := range []int{api.WasAborted, api.GotStuck, api.GotFree} {
			all = append(all, call{what: what, tick: tick})
		}
		for _, step := range steps {
			for _, user := range users {
				all = append(all, call{api.WasClaimed, step, user, tick}, call{api.WasDone, step, user, tick})
			}
		}
	}
	return all
}

// lays: do some of the calls, behind those that were made, lay this log?
func lays(t testing.TB, f api.Flow, tick int, made, all []call, log []api.Event) bool {
	was := again(t, f, tick, made).Log()
	if !begins(log, was) || len(was) == len(log) {
		return begins(log, was)
	}
	for _, c := range all {
		next := append(slices.Clone(made), c)
		if is := again(t, f, tick, next).Log(); len(is) > len(was) && begins(log, is) {
			return lays(t, f, tick, next, all, log)
		}
	}
	return false
}

// begins: does the log begin so?
func begins(log, so []api.Event) bool {
	return len(so) <= len(log) && slices.Equal(log[:len(so)], so)
}

// picture is all that a run tells.
func picture(r *run.Run) string {
	claims, completions := r.Left()
	text := fmt.Sprint(r.Status(), r.Ready(), r.Fixed(), claims, completions, r.Log(), r.Flow())
	for step := -1; step <= api.MaxSteps; step++ {
		s, is := r.State(step)
		text += fmt.Sprint(s, is)
	}
	return text
}

// spoilt are logs that differ from this one a little: some of them are ones of
// the flow still.
func (d *dice) spoilt(log []api.Event) [][]api.Event {
	var l [][]api.Event
	for i, e := range log {
		l = append(l, slices.Delete(slices.Clone(log), i, i+1), slices.Insert(slices.Clone(log), i, e), log[:i])
		if i > 0 {
			swapped := slices.Clone(log)
			swapped[i], swapped[i-1] = swapped[i-1], e
			l = append(l, swapped)
		}
		for _, by := range []int{-1, 1, d.below(9) - 4} {
			tick, kind, step, user := slices.Clone(log), slices.Clone(log), slices.Clone(log), slices.Clone(log)
			tick[i].Tick += by
			kind[i].Kind += by
			step[i].Step += by
			user[i].User += by
			l = append(l, tick, kind, step, user)
		}
	}
	drawn := event(d.below(4), d.below(9), d.below(4)-1, d.below(4)-1)
	return append(l, append(slices.Clone(log), drawn))
}
