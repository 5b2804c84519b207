package audit_test

import (
	"fmt"
	"slices"
	"testing"

	"provost/api"
	"provost/audit"
)

// R2 and R4: what is handed in stays as it is, its spare room too, and is not
// kept; what is told is the caller's own; one log's answers hang on nothing else.

// roomy is a list in memory of its own, with spare room that is filled.
func roomy[T any](l []T, with T) []T {
	room := append(slices.Clone(l), with, with, with)
	return room[:len(l)]
}

// given is the same flow, all of whose lists are roomy.
func given(f api.Flow) api.Flow {
	f.Steps = roomy(f.Steps, api.Step{Name: "spare"})
	f.Rules = roomy(f.Rules, api.Rule{Kind: 77})
	for i := range f.Steps {
		f.Steps[i].After = roomy(f.Steps[i].After, 77)
	}
	for i := range f.Rules {
		f.Rules[i].Steps = roomy(f.Rules[i].Steps, 77)
	}
	return f
}

// memory is all that stands in a flow's and a log's memory, spare room too.
func memory(f api.Flow, log []api.Event) string {
	text := fmt.Sprint(f, f.Steps[:cap(f.Steps)], f.Rules[:cap(f.Rules)], log[:cap(log)])
	for _, s := range f.Steps {
		text += fmt.Sprint(s.After[:cap(s.After)])
	}
	for _, x := range f.Rules {
		text += fmt.Sprint(x.Steps[:cap(x.Steps)])
	}
	return text
}

// spoil writes into a list and into its spare room.
func spoil[T any](l []T, with T) {
	for i := range cap(l) {
		l[:cap(l)][i] = with
	}
}

// ruin writes into all memory that a flow and a log have.
func ruin(f api.Flow, log []api.Event) {
	for _, s := range f.Steps {
		spoil(s.After, -9)
	}
	for _, x := range f.Rules {
		spoil(x.Steps, -9)
	}
	spoil(f.Steps, api.Step{Name: "spoilt", Duty: "spoilt", After: []int{77}})
	spoil(f.Rules, api.Rule{Kind: 99, K: 99, Steps: []int{77}})
	spoil(log, event(99, 99, 99, 99))
}

func TestWhatIsGivenStaysAndIsNotKept(t *testing.T) {
	d := dice(13)
	for range 60 {
		n := 1 + d.below(12)
		f := given(d.drawn(n, 4))
		for _, log := range [][]api.Event{again(t, f, 1, d.drawnCalls(n, 8*n, false)).Log(), finished(), nil} {
			log = roomy(log, event(88, 88, 88, 88))
			was := memory(f, log)
			want := all(t, f, log)
			r, why := audit.Replay(f, log)
			audit.Loads(log)
			audit.Order(log)
			if memory(f, log) != was {
				t.Fatalf("%s has become %s", was, memory(f, log))
			}
			if why != api.OK {
				continue
			}
			x, xlog := given(f), roomy(log, event(7, 7, 7, 7))
			y, _ := audit.Replay(x, xlog)
			ruin(x, xlog)
			if picture(y) != picture(r) || all(t, f, log) != want {
				t.Fatalf("spoilt with what was given: %s, not %s", picture(y), picture(r))
			}
		}
	}
}

func TestWhatIsToldIsTheCallersOwn(t *testing.T) {
	f, log := loose(4), []api.Event{event(1, api.Started, -1, -1)}
	f.Rules = []api.Rule{{Kind: api.Apart, Steps: []int{0, 1}}, {Kind: api.Apart, Steps: []int{0, 2}}}
	for i := range 4 {
		log = append(log, event(2, api.WasClaimed, i, 5))
	}
	for i := range 4 {
		log = append(log, event(3+i, api.WasDone, i, 5))
	}
	log = append(log, event(6, api.WasFinished, -1, -1))
	want := all(t, f, log)
	is(t, "all", "3 0 [0 1] [[5 4]] [0 1 2 3] [[0 1] [1 2] [2 3] [3 4]]", want)
	broken, _ := audit.Broken(f, log)
	spans, _ := audit.Spans(f, log)
	loads, order := audit.Loads(log), audit.Order(log)
	spoil(broken, -9)
	spoil(spans, [2]int{-9, -9})
	spoil(loads, [2]int{-9, -9})
	spoil(order, -9)
	is(t, "behind spoilt answers", want, all(t, f, log))
	r, _ := audit.Replay(f, log)
	spoil(r.Log(), event(9, 9, 9, 9))
	ruin(r.Flow(), nil)
	is(t, "behind a spoilt run", want, all(t, f, log))
}

// Two runs of one log know nothing of each other.
func TestTwoReplaysAreApart(t *testing.T) {
	log := finished()[:5]
	one, _ := audit.Replay(pay(t), log)
	other, _ := audit.Replay(pay(t), log)
	was := picture(other)
	one.Claim(1, 3, 8)
	one.Abort(9)
	if picture(other) != was {
		t.Errorf("it is %s, not %s", picture(other), was)
	}
	is(t, "Loads", "[[7 1]]", audit.Loads(log))
}

// What is told of many users does not hang on the order of a map.
func TestOneAnswerEachTime(t *testing.T) {
	d := dice(2)
	var log []api.Event
	for range 2000 {
		log = append(log, event(0, api.WasClaimed, 0, d.below(500)-250))
	}
	want := fmt.Sprint(audit.Loads(log))
	for range 20 {
		if got := fmt.Sprint(audit.Loads(log)); got != want {
			t.Fatalf("Loads are %s, and were %s", got, want)
		}
	}
}
