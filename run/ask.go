package run

import (
	"slices"

	"provost/api"
)

// Status says how it stands.
func (r *Run) Status() int { return r.status }

// State says how a step stands.
func (r *Run) State(step int) (api.State, bool) {
	if !r.has(step) {
		return api.State{}, false
	}
	return r.steps[step], true
}

// Ready are the steps that may be claimed next, as a word of bits.
func (r *Run) Ready() uint64 {
	if r.ended() {
		return 0
	}
	return r.order.Ready(r.those(api.Completed)) & r.those(api.Open)
}

// Fixed are the steps' users.
func (r *Run) Fixed() []int {
	users := make([]int, len(r.steps))
	for i, s := range r.steps {
		users[i] = s.User
	}
	return users
}

// Left is how many steps are to be claimed, and to be completed.
func (r *Run) Left() (claims, completions int) {
	for _, s := range r.steps {
		switch s.State {
		case api.Open:
			claims++
			fallthrough
		case api.Claimed:
			completions++
		}
	}
	return claims, completions
}

// Log is what has happened.
func (r *Run) Log() []api.Event { return slices.Clone(r.log) }

// Flow is the flow.
func (r *Run) Flow() api.Flow { return copyOf(r.flow) }

// ended: is it finished, or aborted?
func (r *Run) ended() bool { return r.status == api.Finished || r.status == api.Aborted }

// has: is there such a step?
func (r *Run) has(step int) bool { return 0 <= step && step < len(r.steps) }

// those are the steps that stand so, as a word of bits.
func (r *Run) those(state int) uint64 {
	var steps uint64
	for i, s := range r.steps {
		if s.State == state {
			steps |= 1 << i
		}
	}
	return steps
}

// copyOf is the flow in memory of its own.
func copyOf(f api.Flow) api.Flow {
	f.Steps, f.Rules = slices.Clone(f.Steps), slices.Clone(f.Rules)
	for i := range f.Steps {
		f.Steps[i].After = slices.Clone(f.Steps[i].After)
	}
	for i := range f.Rules {
		f.Rules[i].Steps = slices.Clone(f.Rules[i].Steps)
	}
	return f
}
