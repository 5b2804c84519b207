package audit_test

import (
	"fmt"
	"slices"
	"strings"
	"testing"

	"provost/api"
	"provost/audit"
	"provost/flow"
)

// The chapter's runs and examples.

// pay is the flow of the first run of flow's chapter.
func pay(t testing.TB) api.Flow {
	f, fault := flow.Parse("flow pay\nstep ask\nstep sign needs approve after ask\napart ask, sign\nend\n")
	if fault.Why != api.OK {
		t.Fatal(fault)
	}
	return f
}

// is holds what was told against what must be, both as texts.
func is(t *testing.T, what string, want string, got ...any) {
	t.Helper()
	if text := strings.TrimSpace(fmt.Sprintln(got...)); text != want {
		t.Errorf("%s: %s, not %s", what, text, want)
	}
}

// all is what all the calls tell of a flow and a log, as a text; where there is
// an error, each of them that can has it, and tells nothing besides.
func all(t testing.TB, f api.Flow, log []api.Event) string {
	t.Helper()
	r, one := audit.Replay(f, log)
	broken, other := audit.Broken(f, log)
	spans, third := audit.Spans(f, log)
	if one != other || one != third && (one != api.OK || third != api.ErrClock) {
		t.Errorf("of one log: Replay %v, Broken %v, Spans %v", one, other, third)
	}
	if one != api.OK && (r != nil || len(broken) > 0) || third != api.OK && len(spans) > 0 {
		t.Errorf("beside an error: %v, %v, %v", r, broken, spans)
	}
	if one != api.OK {
		return one.Error()
	}
	if !slices.Equal(r.Log(), log) {
		t.Errorf("the log of Replay is %v, not %v", r.Log(), log)
	}
	end := fmt.Sprint(spans)
	if third != api.OK {
		end = third.Error()
	}
	return fmt.Sprintf("%v %v %v %v %v %s", r.Status(), r.Ready(), broken, audit.Loads(log), audit.Order(log), end)
}

// finished is the log of a run of pay that is finished, with marks in it.
func finished() []api.Event {
	return []api.Event{
		event(1, api.Started, -1, -1),
		event(2, api.WasClaimed, 0, 7),
		event(3, api.GotStuck, -1, -1),
		event(3, api.GotFree, -1, -1),
		event(5, api.WasDone, 0, 7),
		event(5, api.WasClaimed, 1, 4),
		event(9, api.WasDone, 1, 4),
		event(9, api.WasFinished, -1, -1),
	}
}

func TestRuns(t *testing.T) {
	begun := event(1, api.Started, -1, -1)
	whole := finished()
	late := slices.Clone(whole)
	late[7].Tick = 10
	for _, x := range []struct {
		what, want string
		log        []api.Event
	}{
		{"S", "1 1 [] [] [] []", []api.Event{begun}},
		{"apart is broken", "1 0 [0] [[7 2]] [0] [[0 1]]", []api.Event{begun, event(2, api.WasClaimed, 0, 7), event(3, api.WasDone, 0, 7), event(4, api.WasClaimed, 1, 7)}},
		{"too early", "malformed", []api.Event{begun, event(2, api.WasClaimed, 1, 7)}},
		{"another holder", "malformed", []api.Event{begun, event(2, api.WasClaimed, 0, 7), event(3, api.WasDone, 0, 8)}},
		{"free from its start on", "malformed", []api.Event{begun, event(2, api.GotFree, -1, -1)}},
		{"stuck twice", "malformed", []api.Event{begun, event(2, api.GotStuck, -1, -1), event(2, api.GotStuck, -1, -1)}},
		{"no events", "malformed", nil},
		{"without its start", "malformed", []api.Event{event(1, api.WasClaimed, 0, 7)}},
		{"a finished run", "3 0 [] [[4 1] [7 1]] [0 1] [[0 3] [1 4]]", whole},
		{"without WasFinished", "malformed", whole[:7]},
		{"finished at another tick", "malformed", late},
		{"an event behind", "malformed", append(slices.Clone(whole), event(9, api.WasFinished, -1, -1))},
		{"ticks that fall", "1 0 [] [[7 1]] [] clock", []api.Event{begun, event(0, api.WasClaimed, 0, 7)}},
	} {
		is(t, x.what, x.want, all(t, pay(t), x.log))
	}
}

func TestExamples(t *testing.T) {
	is(t, "Loads without claims", "0 []", len(audit.Loads(finished()[:1])), audit.Loads(nil))
	r, why := audit.Replay(pay(t), []api.Event{event(5, api.Started, -1, -1), event(-7, api.WasAborted, -1, -1)})
	is(t, "ticks that fall", "ok 4", why.Error(), r.Status())
}
