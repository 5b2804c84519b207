package audit_test

import (
	"slices"
	"testing"

	"provost/api"
	"provost/audit"
)

// P23.6

// What is true of a run's own log: what it tells is what the run tells.
func TestEveryRunsLogIsOneOfItsFlow(t *testing.T) {
	d := dice(59)
	status := map[int]int{}
	for range 300 {
		n := 1 + d.below(12)
		f := d.drawn(n, 3)
		calls := d.drawnCalls(n, 9*n, true)
		for many := range 5 {
			r := again(t, f, 1-many, calls[:many*len(calls)/4])
			x, why := audit.Replay(f, r.Log())
			if why != api.OK || picture(x) != picture(r) {
				t.Fatalf("Replay of %v of %v: %v", r.Log(), f, why)
			}
			status[r.Status()]++
			claims, completions := r.Left()
			if got := audit.Order(r.Log()); len(got) != n-completions {
				t.Fatalf("Order of %v: %v", r.Log(), got)
			}
			sum := 0
			for _, l := range audit.Loads(r.Log()) {
				sum += l[1]
			}
			if sum != n-claims {
				t.Fatalf("Loads of %v: %v", r.Log(), audit.Loads(r.Log()))
			}
		}
	}
	for s := api.Running; s <= api.Aborted; s++ {
		if status[s] < 30 {
			t.Errorf("runs stood so: %v", status)
		}
	}
}

// No event but a mark can be spared in the log of a finished run.
func TestNothingCanBeTakenOut(t *testing.T) {
	d := dice(61)
	for range 120 {
		n := 1 + d.below(12)
		f := d.drawn(n, 1)
		r := again(t, f, 1, d.drawnCalls(n, 3*n, false)[:2*n])
		goOn(&d, r, 90)
		if r.Status() != api.Finished {
			continue
		}
		log := r.Log()
		for i, e := range log {
			if e.Kind == api.GotStuck || e.Kind == api.GotFree {
				continue
			}
			if x, why := audit.Replay(f, slices.Delete(slices.Clone(log), i, i+1)); why != api.ErrForm || x != nil {
				t.Fatalf("%v without its event %d is answered %v", log, i, why)
			}
		}
	}
}

// A mark can be taken out where the next one is its opposite, that one too.
func TestMarksCanBeTakenOut(t *testing.T) {
	log := finished()
	is(t, "without both marks", "3 0 [] [[4 1] [7 1]] [0 1] [[0 3] [1 4]]", all(t, pay(t), slices.Delete(slices.Clone(log), 2, 4)))
	is(t, "without the second one", "3 0 [] [[4 1] [7 1]] [0 1] [[0 3] [1 4]]", all(t, pay(t), slices.Delete(slices.Clone(log), 3, 4)))
	is(t, "without the first one", "malformed", all(t, pay(t), slices.Delete(slices.Clone(log), 2, 3)))
}
