package run_test

import (
	"fmt"
	"slices"
	"testing"

	"provost/api"
	"provost/run"
)

// R2: what is handed in stays as it is, its spare room too, and is not kept; what
// is told is the caller's own, its spare room too.

// roomy is a list in memory of its own, with spare room.
func roomy[T any](l []T) []T { return append(make([]T, 0, len(l)+3), l...) }

// copied is the same flow, all of whose lists are roomy.
func copied(f api.Flow) api.Flow {
	f.Steps, f.Rules = roomy(f.Steps), roomy(f.Rules)
	for i := range f.Steps {
		f.Steps[i].After = roomy(f.Steps[i].After)
	}
	for i := range f.Rules {
		f.Rules[i].Steps = roomy(f.Rules[i].Steps)
	}
	return f
}

// memory is all that stands in a flow's memory, its spare room too.
func memory(f api.Flow) string {
	text := fmt.Sprint(f, f.Steps[:cap(f.Steps)], f.Rules[:cap(f.Rules)])
	for _, s := range f.Steps {
		text += fmt.Sprint(s.After[:cap(s.After)])
	}
	for _, x := range f.Rules {
		text += fmt.Sprint(x.Steps[:cap(x.Steps)])
	}
	return text
}

// spoil writes into a list and into its spare room.
func spoil[T any](l []T, with T) {
	for i := range cap(l) {
		l[:cap(l)][i] = with
	}
}

// ruin writes into all memory that a flow has.
func ruin(f api.Flow) {
	for _, s := range f.Steps {
		spoil(s.After, -9)
	}
	for _, x := range f.Rules {
		spoil(x.Steps, -9)
	}
	spoil(f.Steps, api.Step{Name: "spoilt", Duty: "spoilt", After: []int{77}})
	spoil(f.Rules, api.Rule{Kind: 99, K: 99, Steps: []int{77}})
}

func TestTheFlowIsCopied(t *testing.T) {
	for _, f := range great() {
		given := copied(f)
		was := memory(given)
		r := start(t, given)
		for _, c := range goOn(r) {
			do(r, c)
		}
		one, other := r.Flow(), r.Flow()
		if memory(given) != was {
			t.Fatalf("%s has become %s", was, memory(given))
		}
		ruin(one)
		if memory(given) != was || fmt.Sprint(other) != fmt.Sprint(f) || fmt.Sprint(r.Flow()) != fmt.Sprint(f) {
			t.Fatalf("spoilt with what Flow told: %v, %v, %v", given, other, r.Flow())
		}
		ruin(given)
		if fmt.Sprint(other) != fmt.Sprint(f) || fmt.Sprint(r.Flow()) != fmt.Sprint(f) {
			t.Fatalf("spoilt with what was given: %v, %v", other, r.Flow())
		}
		for _, c := range goOn(r) {
			if got := do(r, c); got != api.OK {
				t.Fatalf("behind a spoilt flow %v is answered %v", c, got)
			}
		}
	}
}

// No two lists of what Flow told share memory, though those of what was handed in
// do.
func TestListsOfAFlowAreApart(t *testing.T) {
	shared := []int{0, 1}
	f := flowOf(nil, nil, shared, shared)
	f.Rules = []api.Rule{{Kind: api.Apart, Steps: shared}, {Kind: api.Same, Steps: shared}}
	want := fmt.Sprint(f)
	r := start(t, f)
	for i := range 4 {
		g := r.Flow()
		for j, l := range []*[]int{&g.Steps[2].After, &g.Steps[3].After, &g.Rules[0].Steps, &g.Rules[1].Steps} {
			if j == i {
				spoil(*l, -9)
				*l = []int{0, 1}
			}
		}
		if fmt.Sprint(g) != want || fmt.Sprint(r.Flow()) != want || fmt.Sprint(f) != want {
			t.Errorf("spoilt with list %d: %v, %v, %v", i, g, r.Flow(), f)
		}
	}
}

// What Fixed and Log told stays, and spoilt it changes nothing.
func TestListsAreTheCallersOwn(t *testing.T) {
	d := dice(5)
	for _, f := range great() {
		r := start(t, f)
		for i, c := range d.drawnCalls(len(f.Steps)) {
			do(r, c)
			if i%7 > 0 {
				continue
			}
			was := picture(r)
			users, events := r.Fixed(), r.Log()
			wantUsers, wantEvents := slices.Clone(users), slices.Clone(events)
			spoil(r.Fixed(), -9)
			spoil(r.Log(), api.Event{Tick: 9, Kind: 9, Step: 9, User: 9})
			do(r, c)
			do(r, call{what: "Stick"})
			do(r, call{what: "Free"})
			if !slices.Equal(users, wantUsers) || !slices.Equal(events, wantEvents) {
				t.Fatalf("lists that were told have become %v, %v", users, events)
			}
			if now := picture(r); len(r.Log()) == len(events) && now != was {
				t.Fatalf("spoilt lists have changed\n%s\nto\n%s", was, now)
			}
		}
	}
}

// Behind spoilt answers a run goes on as its model does.
func TestSpoiltListsChangeNothing(t *testing.T) {
	d := dice(6)
	for _, f := range great() {
		r, m := start(t, f), begin(f, 1)
		for _, c := range d.drawnCalls(len(f.Steps)) {
			spoil(r.Fixed(), -9)
			spoil(r.Log(), api.Event{})
			ruin(r.Flow())
			if do(r, c) != do(m, c) || picture(r) != picture(m) {
				t.Fatalf("%v of %v: it is\n%s, not\n%s", c, f, picture(r), picture(m))
			}
		}
	}
}

// R4: two runs of one flow, changed in turns, know nothing of each other.
func TestTwoRuns(t *testing.T) {
	d := dice(9)
	for _, f := range great()[:40] {
		x, y := start(t, f), start(t, f)
		mx, my := begin(f, 1), begin(f, 1)
		calls := d.drawnCalls(len(f.Steps))
		for i, c := range calls {
			other := calls[len(calls)-1-i]
			do(x, c)
			do(mx, c)
			do(y, other)
			do(my, other)
			if picture(x) != picture(mx) || picture(y) != picture(my) {
				t.Fatalf("of two runs of %v: one is\n%s, the other one\n%s", f, picture(x), picture(y))
			}
		}
	}
}

// A flow that is refused leaves nothing behind.
func TestRefusedFlowsStay(t *testing.T) {
	for _, f := range []api.Flow{flowOf([]int{1}, []int{0}), loose(13), flowOf(nil, []int{5})} {
		given := copied(f)
		was := memory(given)
		run.New(given, 1)
		if memory(given) != was {
			t.Errorf("%s has become %s", was, memory(given))
		}
	}
}
