package run_test

import (
	"fmt"
	"strings"
	"testing"

	"provost/api"
	"provost/flow"
	"provost/run"
)

// The chapter's runs and examples.

// pay is the flow of the first run of flow's chapter.
func pay(t testing.TB) api.Flow {
	f, fault := flow.Parse("flow pay\nstep ask\nstep sign needs approve after ask\napart ask, sign\nend\n")
	if fault.Why != api.OK {
		t.Fatal(fault)
	}
	return f
}

// is holds what was told against what must be, both as texts.
func is(t *testing.T, what string, want string, got ...any) {
	t.Helper()
	if text := strings.TrimSpace(fmt.Sprintln(got...)); text != want {
		t.Errorf("%s: %s, not %s", what, text, want)
	}
}

func left(r runner) [2]int {
	claims, completions := r.Left()
	return [2]int{claims, completions}
}

// err is an error told by name.
func err(e api.Errno) string { return e.Error() }

func TestRuns(t *testing.T) {
	r := start(t, pay(t))
	is(t, "New", "1 1 [-1 -1] [2 2] [{1 1 -1 -1}]", r.Status(), r.Ready(), r.Fixed(), left(r), r.Log())
	for _, x := range []struct {
		step, user, tick int
		why              api.Errno
	}{{1, 7, 2, api.ErrOrder}, {0, 7, 2, api.OK}, {0, 8, 2, api.ErrClaimed}, {2, 7, 2, api.ErrStep}, {1, 8, 3, api.ErrOrder}} {
		is(t, "Claim", err(x.why), err(r.Claim(x.step, x.user, x.tick)))
	}
	for _, x := range []struct {
		step, user int
		why        api.Errno
	}{{1, 7, api.ErrUnclaimed}, {0, 8, api.ErrHolder}, {0, 7, api.OK}, {0, 7, api.ErrDone}} {
		is(t, "Done", err(x.why), err(r.Done(x.step, x.user, 3)))
	}
	s, has := r.State(0)
	is(t, "behind Done", "2 {2 7 2 3} true", r.Ready(), s, has)
	is(t, "Mark", "true false 2", r.Mark(true, 4), r.Mark(true, 4), r.Status())
	is(t, "Claim, Mark", "ok true", err(r.Claim(1, 8, 5)), r.Mark(false, 5))
	is(t, "Done", "ok", err(r.Done(1, 8, 6)))
	is(t, "Status", fmt.Sprint(api.Finished), r.Status())
	is(t, "Claim behind the end", "ended", err(r.Claim(0, 1, 7)))
	is(t, "Done behind the end", "ended", err(r.Done(1, 8, 7)))
	is(t, "Abort behind the end", "ended", err(r.Abort(7)))
	is(t, "Mark behind the end, Left", "false [0 0]", r.Mark(true, 7), left(r))
	log := r.Log()
	is(t, "the last two events", "[{6 3 1 8} {6 7 -1 -1}]", log[len(log)-2:])
}

func TestRunsOfAnother(t *testing.T) {
	r := start(t, pay(t))
	is(t, "Abort", "ok", err(r.Abort(2)))
	is(t, "behind Abort", "4 0 [2 2]", r.Status(), r.Ready(), left(r))
	is(t, "Log", "[{1 1 -1 -1} {2 4 -1 -1}]", r.Log())
	if none, why := run.New(loose(0), 1); none != nil || why != api.ErrArg {
		t.Errorf("New of no steps: %v, %v", none, why)
	}
}

// Rules are not asked here.
func TestExampleOfOneUser(t *testing.T) {
	r := start(t, pay(t))
	for step := range 2 {
		is(t, "Claim, Done", "ok ok", err(r.Claim(step, 7, 2)), err(r.Done(step, 7, 2)))
	}
	is(t, "Status, Fixed", "3 [7 7]", r.Status(), r.Fixed())
}

// Ticks are told as they were given, though they fall.
func TestExampleOfTicks(t *testing.T) {
	r, _ := run.New(loose(1), 1<<62)
	r.Mark(true, -5)
	r.Claim(0, -1<<63, 9)
	r.Mark(false, 0)
	r.Done(0, -1<<63, -1<<63)
	is(t, "Log", "[{4611686018427387904 1 -1 -1} {-5 5 -1 -1} {9 2 0 -9223372036854775808} {0 6 -1 -1} {-9223372036854775808 3 0 -9223372036854775808} {-9223372036854775808 7 -1 -1}]", r.Log())
	s, has := r.State(0)
	is(t, "State", "{2 -9223372036854775808 9 -9223372036854775808} true", s, has)
}
