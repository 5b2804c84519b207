package run_test

import (
	"fmt"
	"slices"
	"testing"

	"provost/api"
	"provost/flow"
	"provost/run"
)

// dice draws numbers, the same ones in every run of the tests.
type dice uint32

func (d *dice) below(n int) int {
	*d = *d*1664525 + 1013904223
	return int(uint64(*d>>8) * uint64(n) >> 24)
}

// flowOf is a flow whose step i comes behind those of the list i.
func flowOf(after ...[]int) api.Flow {
	f := api.Flow{Name: "f"}
	for i, l := range after {
		name := string(rune('a' + i))
		f.Steps = append(f.Steps, api.Step{Name: name, Duty: name, After: l})
	}
	return f
}

// chain is a flow of n steps, each behind the one before it.
func chain(n int) api.Flow {
	after := make([][]int, n)
	for i := range n - 1 {
		after[i+1] = []int{i}
	}
	return flowOf(after...)
}

// loose is a flow of n steps, in no order.
func loose(n int) api.Flow { return flowOf(make([][]int, n)...) }

// membersOf are the numbers of a word of bits.
func membersOf(w int) []int {
	var l []int
	for i := range 16 {
		if w>>i&1 == 1 {
			l = append(l, i)
		}
	}
	return l
}

// small are all flows of one to three steps without rules.
func small() []api.Flow {
	var l []api.Flow
	for n := 1; n <= 3; n++ {
		for w := range 1 << (n * n) {
			var after [][]int
			for i := range n {
				after = append(after, membersOf(w>>(i*n)&(1<<n-1)))
			}
			if f := flowOf(after...); flow.Check(f) == api.OK {
				l = append(l, f)
			}
		}
	}
	return l
}

// great are drawn flows of up to twelve steps; what comes ahead of a step may
// have a greater number than it.
func great() []api.Flow {
	d := dice(17)
	var l []api.Flow
	for len(l) < 120 {
		n := 4 + d.below(9)
		after := make([][]int, n)
		for i := range n {
			for j := range n {
				if j != i && (i*7+5)%n > (j*7+5)%n && d.below(4) == 0 {
					after[i] = append(after[i], j)
				}
			}
		}
		f := flowOf(after...)
		f.Rules = []api.Rule{{Kind: api.Apart, Steps: []int{0, n - 1}}, {Kind: api.Few, K: 1, Steps: []int{d.below(n)}}}
		if flow.Check(f) == api.OK {
			l = append(l, f)
		}
	}
	return l
}

// model is a run by the chapter's words: it keeps its log alone, and reads out of
// it whatever is asked.
type model struct {
	flow api.Flow
	log  []api.Event
}

func begin(f api.Flow, tick int) *model {
	return &model{flow: f, log: []api.Event{{Tick: tick, Kind: api.Started, Step: -1, User: -1}}}
}

// last is the last of the events of such kinds, of the step.
func (m *model) last(step int, kinds ...int) (api.Event, bool) {
	for _, e := range slices.Backward(m.log) {
		if e.Step == step && slices.Contains(kinds, e.Kind) {
			return e, true
		}
	}
	return api.Event{}, false
}

func (m *model) lay(tick, kind, step, user int) {
	m.log = append(m.log, api.Event{Tick: tick, Kind: kind, Step: step, User: user})
}

func (m *model) Status() int {
	e, _ := m.last(-1, api.Started, api.WasAborted, api.WasFinished, api.GotStuck, api.GotFree)
	return map[int]int{api.Started: api.Running, api.GotFree: api.Running, api.GotStuck: api.Stuck, api.WasAborted: api.Aborted, api.WasFinished: api.Finished}[e.Kind]
}

func (m *model) ended() bool { return m.Status() > api.Stuck }

func (m *model) State(step int) (api.State, bool) {
	if step < 0 || step >= len(m.flow.Steps) {
		return api.State{}, false
	}
	claim, claimed := m.last(step, api.WasClaimed)
	done, completed := m.last(step, api.WasDone)
	switch {
	case completed:
		return api.State{State: api.Completed, User: claim.User, ClaimedAt: claim.Tick, DoneAt: done.Tick}, true
	case claimed:
		return api.State{State: api.Claimed, User: claim.User, ClaimedAt: claim.Tick}, true
	}
	return api.State{User: -1}, true
}

// behind: is all that comes ahead of the step completed? (What comes ahead of
// that was completed by then, too.)
func (m *model) behind(step int) bool {
	for _, a := range m.flow.Steps[step].After {
		if s, _ := m.State(a); s.State != api.Completed {
			return false
		}
	}
	return true
}

func (m *model) Claim(step, user, tick int) api.Errno {
	s, is := m.State(step)
	switch {
	case m.ended():
		return api.ErrEnded
	case !is:
		return api.ErrStep
	case s.State != api.Open:
		return api.ErrClaimed
	case !m.behind(step):
		return api.ErrOrder
	}
	m.lay(tick, api.WasClaimed, step, user)
	return api.OK
}

func (m *model) Done(step, user, tick int) api.Errno {
	s, is := m.State(step)
	switch {
	case m.ended():
		return api.ErrEnded
	case !is:
		return api.ErrStep
	case s.State == api.Open:
		return api.ErrUnclaimed
	case s.State == api.Completed:
		return api.ErrDone
	case s.User != user:
		return api.ErrHolder
	}
	m.lay(tick, api.WasDone, step, user)
	if _, completions := m.Left(); completions == 0 {
		m.lay(tick, api.WasFinished, -1, -1)
	}
	return api.OK
}

func (m *model) Abort(tick int) api.Errno {
	if m.ended() {
		return api.ErrEnded
	}
	m.lay(tick, api.WasAborted, -1, -1)
	return api.OK
}

func (m *model) Mark(stuck bool, tick int) bool {
	if m.ended() || stuck == (m.Status() == api.Stuck) {
		return false
	}
	m.lay(tick, map[bool]int{true: api.GotStuck, false: api.GotFree}[stuck], -1, -1)
	return true
}

func (m *model) Ready() uint64 {
	var w uint64
	for i := range m.flow.Steps {
		if s, _ := m.State(i); s.State == api.Open && m.behind(i) && !m.ended() {
			w |= 1 << i
		}
	}
	return w
}

func (m *model) Fixed() []int {
	var l []int
	for i := range m.flow.Steps {
		s, _ := m.State(i)
		l = append(l, s.User)
	}
	return l
}

func (m *model) Left() (claims, completions int) {
	claims, completions = len(m.flow.Steps), len(m.flow.Steps)
	for _, e := range m.log {
		switch e.Kind {
		case api.WasClaimed:
			claims--
		case api.WasDone:
			completions--
		}
	}
	return claims, completions
}

func (m *model) Log() []api.Event { return m.log }

func (m *model) Flow() api.Flow { return m.flow }

// runner is a run, or its model.
type runner interface {
	Claim(step, user, tick int) api.Errno
	Done(step, user, tick int) api.Errno
	Abort(tick int) api.Errno
	Mark(stuck bool, tick int) bool
	Status() int
	State(step int) (api.State, bool)
	Ready() uint64
	Fixed() []int
	Left() (claims, completions int)
	Log() []api.Event
	Flow() api.Flow
}

// picture is all that a run tells.
func picture(r runner) string {
	claims, completions := r.Left()
	text := fmt.Sprint(r.Status(), r.Ready(), r.Fixed(), claims, completions, r.Log(), r.Flow())
	for _, step := range []int{-1 << 63, -1, 0, 1, 2, 3, 4, 5, 6, 7, 8, 9, 10, 11, 12, 63, 64, 1<<63 - 1} {
		s, is := r.State(step)
		text += fmt.Sprint(s, is)
	}
	return text
}

// call is a call that may change a run.
type call struct {
	what             string
	step, user, tick int
}

func do(r runner, c call) any {
	switch c.what {
	case "Claim":
		return r.Claim(c.step, c.user, c.tick)
	case "Done":
		return r.Done(c.step, c.user, c.tick)
	case "Abort":
		return r.Abort(c.tick)
	case "Stick":
		return r.Mark(true, c.tick)
	}
	return r.Mark(false, c.tick)
}

// drawnCalls are calls of a run of n steps. Few users and steps, so that many are
// let through; an Abort now and then.
func (d *dice) drawnCalls(n int) []call {
	var l []call
	for range 12 * n {
		c := call{step: d.below(n), user: d.below(2), tick: d.below(1000) - 20}
		switch x := d.below(100); {
		case x < 42:
			c.what = "Claim"
		case x < 84:
			c.what = "Done"
		case x < 91:
			c.what = "Stick"
		case x < 98 || d.below(8) > 0:
			c.what = "Free"
		default:
			c.what = "Abort"
		}
		if d.below(30) == 0 {
			c.step = []int{-1, n, n + 1, 64, -1 << 63, 1<<63 - 1}[d.below(6)]
		}
		if d.below(20) == 0 {
			c.user = []int{-1, 64, -1 << 63, 1<<63 - 1}[d.below(4)]
		}
		l = append(l, c)
	}
	return l
}

// start is a run of the flow, at tick 1.
func start(t testing.TB, f api.Flow) *run.Run {
	t.Helper()
	r, err := run.New(f, 1)
	if err != api.OK || r == nil {
		t.Fatalf("New of %v: %v, %v", f, r, err)
	}
	return r
}
