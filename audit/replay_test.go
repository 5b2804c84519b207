package audit_test

import (
	"slices"
	"strings"
	"testing"

	"provost/api"
	"provost/audit"
	"provost/flow"
	"provost/run"
)

// P23.1, P23.2

// What Check refuses is told first, of a log that is none as of one that is.
func TestReplayTellsWhatCheckRefuses(t *testing.T) {
	rules := slices.Repeat([]api.Rule{{Kind: api.Few, K: 1, Steps: []int{0}}}, 33)
	for _, x := range []struct {
		f   api.Flow
		why api.Errno
	}{
		{api.Flow{}, api.ErrName},
		{api.Flow{Name: "f"}, api.ErrArg},
		{api.Flow{Name: strings.Repeat("f", 25), Steps: loose(1).Steps}, api.ErrName},
		{loose(13), api.ErrTooBig},
		{api.Flow{Name: "f", Steps: slices.Repeat(loose(1).Steps, 2)}, api.ErrTwice},
		{flowOf([]int{1}, []int{0}), api.ErrCycle},
		{flowOf([]int{2}, nil), api.ErrArg},
		{api.Flow{Name: "f", Steps: loose(1).Steps, Rules: rules}, api.ErrTooBig},
		{api.Flow{Name: "f", Steps: loose(2).Steps, Rules: []api.Rule{{Kind: api.Apart, Steps: []int{0}}}}, api.ErrArg},
	} {
		for _, log := range [][]api.Event{nil, {event(1, api.Started, -1, -1)}, {event(-1, api.Started, -1, -1)}, {event(1, 9, 9, 9)}, finished()} {
			is(t, "of a flow that Check refuses", x.why.Error(), all(t, x.f, log))
		}
		is(t, "Check", x.why.Error(), flow.Check(x.f).Error())
	}
}

// Each field of each event counts, those that an event of its kind has no use
// for as well.
func TestReplayLooksAtEachField(t *testing.T) {
	far := []int{-1 << 63, -2, 2, 12, 64, 1<<63 - 1}
	for i := range finished() {
		for _, n := range far {
			step, user, kind := finished(), finished(), finished()
			step[i].Step, user[i].User, kind[i].Kind = n, n, 90+n&7
			is(t, "another step", "malformed", all(t, pay(t), step))
			if e := user[i]; e.Kind != api.WasClaimed {
				is(t, "another user", "malformed", all(t, pay(t), user))
			}
			is(t, "another kind", "malformed", all(t, pay(t), kind))
		}
	}
}

// Any user may claim, one whose number stands for none in other events too, and
// any tick be told: only a run's end has the tick of what ended it.
func TestReplayTakesAnyUserAndTick(t *testing.T) {
	for _, n := range []int{-1 << 63, -1, 0, 64, 1<<63 - 1} {
		for i := range finished() {
			log := finished()
			for j, e := range log {
				if e.Step == i {
					log[j].User = n
				}
			}
			log[i].Tick = n
			log[7].Tick = log[6].Tick
			if r, why := audit.Replay(pay(t), log); why != api.OK || !slices.Equal(r.Log(), log) {
				t.Errorf("Replay of %v: %v", log, why)
			}
		}
	}
}

// Logs of small flows' runs, and such as differ from them a little, are taken
// just if calls can be found that lay them.
func TestReplayTakesWhatCallsLay(t *testing.T) {
	d := dice(23)
	taken, refused, ends := 0, 0, map[int]int{}
	for range 30 {
		n := 1 + d.below(3)
		f := d.drawn(n, 0)
		r := again(t, f, d.below(3), d.drawnCalls(n, 1+d.below(9*n), true))
		ends[r.Status()]++
		for _, log := range append(d.spoilt(r.Log()), r.Log()) {
			want := "malformed"
			if oneOf(t, f, log) {
				want = "ok"
				taken++
			} else {
				refused++
			}
			if _, why := audit.Replay(f, log); why.Error() != want {
				t.Fatalf("Replay of %v of %v: %v, not %v", log, f, why, want)
			}
		}
	}
	if taken < 500 || refused < 1000 || len(ends) < 4 {
		t.Errorf("%d were taken, %d refused, of runs that stood so: %v", taken, refused, ends)
	}
}

// What Replay gives is a run as the one that laid the log: it goes on as that one
// does.
func TestReplayGoesOnAsTheRunDid(t *testing.T) {
	d := dice(31)
	for range 150 {
		n := 1 + d.below(12)
		f := d.drawn(n, 2)
		calls := d.drawnCalls(n, 8*n, true)
		was := again(t, f, 3, calls[:d.below(len(calls))])
		is, why := audit.Replay(f, was.Log())
		if why != api.OK || picture(is) != picture(was) {
			t.Fatalf("Replay of %v of %v: %v", was.Log(), f, why)
		}
		for _, c := range calls {
			do(was, c)
			do(is, c)
			if picture(is) != picture(was) {
				t.Fatalf("behind %v: %s, not %s", c, picture(is), picture(was))
			}
		}
	}
}

// A log may be of one flow, and of another one not.
func TestReplayAsksTheFlow(t *testing.T) {
	log := []api.Event{event(1, api.Started, -1, -1), event(2, api.WasClaimed, 1, 7)}
	is(t, "of steps in no order", "1 1 [] [[7 1]] [] []", all(t, loose(2), log))
	is(t, "of steps in an order", "malformed", all(t, flowOf(nil, []int{0}), log))
	is(t, "of a step more", "1 5 [] [[7 1]] [] []", all(t, loose(3), log))
	is(t, "of a step less", "malformed", all(t, loose(1), log))
	longer := append(log, event(3, api.WasDone, 1, 7), event(3, api.WasFinished, -1, -1))
	is(t, "finished with a step open", "malformed", all(t, loose(2), longer))
	only := flowOf(nil)
	only.Steps[0].Name = "b"
	done := []api.Event{event(1, api.Started, -1, -1), event(2, api.WasClaimed, 0, 7), event(3, api.WasDone, 0, 7), event(3, api.WasFinished, -1, -1)}
	is(t, "finished", "3 0 [] [[7 1]] [0] [[0 1]]", all(t, only, done))
	r, _ := audit.Replay(only, done)
	is(t, "its flow", "b", r.Flow().Steps[0].Name)
}

// The greatest flow, and a long log of marks.
func TestReplayOfMuch(t *testing.T) {
	r, _ := run.New(loose(api.MaxSteps), 0)
	for i := range 20000 {
		r.Mark(i%2 == 0, i)
	}
	d := dice(4)
	goOn(&d, r, 20000)
	x, why := audit.Replay(loose(api.MaxSteps), r.Log())
	if why != api.OK || picture(x) != picture(r) {
		t.Error("a long log is refused:", why)
	}
}
