package run_test

import (
	"slices"
	"strings"
	"testing"

	"provost/api"
	"provost/flow"
	"provost/run"
)

// P17.1

func TestNewTellsWhatCheckRefuses(t *testing.T) {
	stepsOf := func(n int) []api.Step { return loose(n).Steps }
	rules := slices.Repeat([]api.Rule{{Kind: api.Few, K: 1, Steps: []int{0}}}, 33)
	for _, x := range []struct {
		f   api.Flow
		why api.Errno
	}{
		{api.Flow{Name: "f"}, api.ErrArg},
		{api.Flow{}, api.ErrName},
		{api.Flow{Name: strings.Repeat("f", 25), Steps: stepsOf(1)}, api.ErrName},
		{api.Flow{Name: "f", Steps: stepsOf(13)}, api.ErrTooBig},
		{api.Flow{Name: "f", Steps: []api.Step{{Name: "a"}}}, api.ErrName},
		{api.Flow{Name: "f", Steps: slices.Repeat(stepsOf(1), 2)}, api.ErrTwice},
		{flowOf([]int{0}), api.ErrCycle},
		{flowOf([]int{1}, []int{0}), api.ErrCycle},
		{flowOf([]int{2}, nil), api.ErrArg},
		{flowOf(nil, []int{-1}), api.ErrArg},
		{flowOf(nil, nil, []int{1, 0}), api.ErrArg},
		{api.Flow{Name: "f", Steps: stepsOf(1), Rules: rules}, api.ErrTooBig},
		{api.Flow{Name: "f", Steps: stepsOf(2), Rules: []api.Rule{{Kind: api.Apart, Steps: []int{0}}}}, api.ErrArg},
	} {
		if r, why := run.New(x.f, 1); r != nil || why != x.why || why != flow.Check(x.f) {
			t.Errorf("New of %v: %v, %v, not %v", x.f, r, why, x.why)
		}
	}
}

func TestNewBeginsWithAllStepsOpen(t *testing.T) {
	all := append(small(), great()...)
	for n := 1; n <= api.MaxSteps; n++ {
		all = append(all, chain(n), loose(n))
	}
	for _, f := range append(all, pay(t)) {
		for _, tick := range []int{-1 << 63, -1, 0, 1, api.MaxTick, 1<<63 - 1} {
			r, why := run.New(f, tick)
			if why != api.OK {
				t.Fatalf("New of %v: %v", f, why)
			}
			if got, want := picture(r), picture(begin(f, tick)); got != want {
				t.Fatalf("New of %v:\n%s, not\n%s", f, got, want)
			}
		}
	}
}

// P17.2

// What comes ahead through other steps counts as well, and completed it must be,
// not claimed.
func TestClaimWaitsForAllThatComesAhead(t *testing.T) {
	for n := 1; n <= api.MaxSteps; n++ {
		r := start(t, chain(n))
		for step := range n {
			for other := range n {
				if want := early(other, step); r.Claim(other, 5, 2) != want {
					t.Fatalf("%d of %d steps completed: Claim of %d is not %v", step, n, other, want)
				}
				if other == step {
					break
				}
			}
			for later := step + 1; later < n; later++ {
				is(t, "Claim of a later step", "too early", err(r.Claim(later, 5, 2)))
			}
			r.Done(step, 5, 3)
		}
		is(t, "Status", "3", r.Status())
	}
}

// early is what the claim of a step is answered, when those ahead of done are
// completed.
func early(step, done int) api.Errno {
	switch {
	case step < done:
		return api.ErrClaimed
	case step > done:
		return api.ErrOrder
	}
	return api.OK
}

// Each of several steps that come ahead is waited for.
func TestClaimWaitsForEach(t *testing.T) {
	f := flowOf([]int{1, 2, 3}, nil, nil, nil)
	for missing := 1; missing <= 3; missing++ {
		r := start(t, f)
		for step := 1; step <= 3; step++ {
			r.Claim(step, 0, 1)
			if step != missing {
				r.Done(step, 0, 1)
			}
		}
		is(t, "Claim", "too early", err(r.Claim(0, 0, 1)))
		r.Done(missing, 0, 1)
		is(t, "Claim", "ok", err(r.Claim(0, 0, 1)))
	}
}

// Which of several refusals is told.
func TestClaimTellsTheFirst(t *testing.T) {
	r := start(t, chain(3))
	is(t, "no step", "no such step", err(r.Claim(3, 0, 1)))
	r.Claim(0, 4, 1)
	is(t, "claimed, by who asks", "claimed", err(r.Claim(0, 4, 1)))
	r.Done(0, 4, 1)
	is(t, "completed", "claimed", err(r.Claim(0, 4, 1)))
	r.Abort(1)
	for step := -1; step <= 3; step++ {
		is(t, "aborted", "ended", err(r.Claim(step, 4, 1)))
	}
}

// P17.3

func TestDoneTellsTheFirst(t *testing.T) {
	r := start(t, chain(3))
	for _, step := range []int{-1 << 63, -1, 3, 12, 64, 1<<63 - 1} {
		is(t, "no step", "no such step", err(r.Done(step, -1, 1)))
	}
	is(t, "open", "not claimed", err(r.Done(0, -1, 1)))
	is(t, "open, and too early", "not claimed", err(r.Done(2, -1, 1)))
	r.Claim(0, 4, 1)
	is(t, "another's", "not the holder", err(r.Done(0, 5, 1)))
	is(t, "its own", "ok", err(r.Done(0, 4, 1)))
	is(t, "completed", "done", err(r.Done(0, 4, 1)))
	is(t, "completed, another's", "done", err(r.Done(0, 5, 1)))
	r.Abort(1)
	for step := -1; step <= 3; step++ {
		is(t, "aborted", "ended", err(r.Done(step, 4, 1)))
	}
}

// The run is finished by the last completion, whichever step's it is.
func TestTheLastCompletionFinishes(t *testing.T) {
	for n := 1; n <= api.MaxSteps; n++ {
		for last := range n {
			r := start(t, loose(n))
			for step := range n {
				r.Claim(step, step, 2)
			}
			for step := range n {
				if step != last {
					r.Done(step, step, 3)
				}
			}
			is(t, "ahead of the last", "1 [0 1]", r.Status(), left(r))
			r.Done(last, last, 4)
			log := r.Log()
			want := []api.Event{{Tick: 4, Kind: api.WasDone, Step: last, User: last}, {Tick: 4, Kind: api.WasFinished, Step: -1, User: -1}}
			if r.Status() != api.Finished || !slices.Equal(log[len(log)-2:], want) || len(log) != 2*n+2 {
				t.Fatalf("%d steps, the last one %d: %d, %v", n, last, r.Status(), log)
			}
		}
	}
}

// P17.4, P17.5

func TestAbortEndsFromAnyState(t *testing.T) {
	for _, before := range []string{"", "Claim", "Claim Done", "Stick", "Stick Free", "Claim Stick Done"} {
		r, m := start(t, chain(2)), begin(chain(2), 1)
		for _, what := range strings.Fields(before) {
			do(r, call{what: what, tick: 2})
			do(m, call{what: what, tick: 2})
		}
		is(t, "Abort", "ok", err(r.Abort(9)))
		m.Abort(9)
		if r.Status() != api.Aborted || r.Ready() != 0 || picture(r) != picture(m) {
			t.Errorf("Abort behind %q:\n%s, not\n%s", before, picture(r), picture(m))
		}
		is(t, "behind it", "ended ended ended false false", err(r.Abort(9)), err(r.Claim(0, 0, 9)), err(r.Done(0, 0, 9)), r.Mark(true, 9), r.Mark(false, 9))
		if picture(r) != picture(m) {
			t.Errorf("changed behind its end: %s", picture(r))
		}
	}
}

func TestMarks(t *testing.T) {
	r := start(t, loose(1))
	for i, x := range []struct {
		stuck, new bool
		status     int
	}{{false, false, api.Running}, {true, true, api.Stuck}, {true, false, api.Stuck}, {false, true, api.Running}, {false, false, api.Running}, {true, true, api.Stuck}} {
		if is := r.Mark(x.stuck, i); is != x.new || r.Status() != x.status {
			t.Errorf("Mark %d: %v, Status %d", i, is, r.Status())
		}
	}
	is(t, "Log", "[{1 1 -1 -1} {1 5 -1 -1} {3 6 -1 -1} {5 5 -1 -1}]", r.Log())
	is(t, "Ready while stuck", "1", r.Ready())
	is(t, "Claim while stuck", "ok 2", err(r.Claim(0, 3, 6)), r.Status())
	is(t, "Done while stuck", "ok 3", err(r.Done(0, 3, 7)), r.Status())
	is(t, "Mark behind the end", "false false 3", r.Mark(false, 8), r.Mark(true, 8), r.Status())
}

// P17.6

// A claim by the user -1 is one.
func TestTheUserBelowNone(t *testing.T) {
	r := start(t, loose(2))
	r.Claim(1, -1, 7)
	s, has := r.State(1)
	is(t, "State", "{1 -1 7 0} true", s, has)
	is(t, "Fixed, Ready, Left", "[-1 -1] 1 [1 2]", r.Fixed(), r.Ready(), left(r))
	is(t, "Done", "ok", err(r.Done(1, -1, 8)))
}

func TestStateOfNoStep(t *testing.T) {
	for n := 1; n <= api.MaxSteps; n++ {
		r := start(t, loose(n))
		for _, step := range []int{-1 << 63, -64, -1, n, n + 1, 64, 1<<63 - 1} {
			if s, has := r.State(step); has || s != (api.State{}) {
				t.Errorf("State(%d) of %d steps: %v, %v", step, n, s, has)
			}
		}
	}
}

// P17.2 to P17.7, over drawn rows of calls: behind each call all that a run tells
// is what the chapter's words ask for, and what is refused changes nothing.
func TestDrawnCalls(t *testing.T) {
	d := dice(3)
	ended := map[int]int{}
	for range 2 {
		for _, f := range append(small(), great()...) {
			r, m := start(t, f), begin(f, 1)
			was := picture(r)
			for _, c := range d.drawnCalls(len(f.Steps)) {
				got, want := do(r, c), do(m, c)
				now := picture(r)
				if got != want || now != picture(m) {
					t.Fatalf("%v of %v: %v, not %v; it is\n%s, not\n%s", c, f, got, want, now, picture(m))
				}
				if got != api.OK && got != true && now != was {
					t.Fatalf("%v of %v: refused by %v, and it is\n%s, from\n%s", c, f, got, now, was)
				}
				was = now
			}
			ended[r.Status()]++
		}
	}
	for status := api.Running; status <= api.Aborted; status++ {
		if ended[status] < 15 {
			t.Errorf("too few runs came to the status %d: %v", status, ended)
		}
	}
}
