package run_test

import (
	"slices"
	"testing"

	"provost/api"
)

// P17.8

// goOn are the calls by which a run goes on: claims of what is ready, completions
// of what is claimed.
func goOn(r runner) []call {
	var l []call
	for step := range r.Fixed() {
		if r.Ready()>>step&1 == 1 {
			l = append(l, call{what: "Claim", step: step, user: step % 3, tick: len(r.Log())})
		}
		if s, _ := r.State(step); s.State == api.Claimed {
			l = append(l, call{what: "Done", step: step, user: s.User, tick: len(r.Log())})
		}
	}
	return l
}

// again is a run of the flow behind these calls.
func again(t *testing.T, f api.Flow, calls []call) runner {
	r := start(t, f)
	for _, c := range calls {
		do(r, c)
	}
	return r
}

// Whichever way it goes on, a run comes to its end, by as many claims and
// completions as were left.
func TestEveryWayOnFinishes(t *testing.T) {
	ways := 0
	var walk func(f api.Flow, calls []call)
	walk = func(f api.Flow, calls []call) {
		r := again(t, f, calls)
		on := goOn(r)
		if len(on) == 0 {
			ways++
			if r.Status() != api.Finished || len(calls) != 2*len(f.Steps) || left(r) != [2]int{} {
				t.Fatalf("%v behind %v: %s", f, calls, picture(r))
			}
			return
		}
		for _, c := range on {
			before := left(r)
			next := again(t, f, calls)
			if got := do(next, c); got != api.OK {
				t.Fatalf("%v behind %v: %v is answered %v", f, calls, c, got)
			}
			after := left(next)
			if c.what == "Claim" && after != [2]int{before[0] - 1, before[1]} || c.what == "Done" && after != [2]int{before[0], before[1] - 1} {
				t.Fatalf("%v behind %v: %v makes Left %v of %v", f, calls, c, after, before)
			}
			walk(f, append(slices.Clone(calls), c))
		}
	}
	for _, f := range small() {
		walk(f, nil)
	}
	if ways < 200 {
		t.Errorf("%d ways", ways)
	}
}

// Marks on the way keep nobody from going on.
func TestDrawnWaysOnFinish(t *testing.T) {
	d := dice(8)
	for _, f := range append(great(), chain(12), loose(12)) {
		r := start(t, f)
		for i := range 2 * len(f.Steps) {
			on := goOn(r)
			if len(on) == 0 {
				t.Fatalf("%v has ended behind %d calls: %s", f, i, picture(r))
			}
			r.Mark(d.below(2) == 0, i)
			if got := do(r, on[d.below(len(on))]); got != api.OK {
				t.Fatalf("%v: %v", f, got)
			}
		}
		if r.Status() != api.Finished || left(r) != [2]int{} || len(goOn(r)) > 0 {
			t.Fatalf("%v: %s", f, picture(r))
		}
	}
}

// Ready are just the steps that Claim lets be claimed.
func TestReadyIsWhatClaimLetsThrough(t *testing.T) {
	d := dice(21)
	for _, f := range great() {
		calls := d.drawnCalls(len(f.Steps))
		for many := range 6 {
			behind := calls[:many*len(calls)/6]
			ready := again(t, f, behind).Ready()
			for step := range 64 {
				let := again(t, f, behind).Claim(step, 1, 1) == api.OK
				if let != (ready>>step&1 == 1) {
					t.Fatalf("%v behind %v: Ready is %b, Claim of %d is let through: %v", f, behind, ready, step, let)
				}
			}
		}
	}
}
