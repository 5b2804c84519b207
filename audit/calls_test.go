package audit_test

import (
	"fmt"
	"slices"
	"testing"

	"provost/api"
	"provost/audit"
	"provost/rule"
	"provost/run"
)

// P23.3

// holdsBy: is the rule kept by some users of its open steps? All are tried, of
// those who have claimed and of as many others as there are steps.
func holdsBy(x api.Rule, r *run.Run) bool {
	labels := r.Fixed()
	var open, users []int
	for i := range labels {
		s, _ := r.State(i)
		users = append(users, 1000+i)
		if s.State != api.Open {
			users = append(users, s.User)
		} else if slices.Contains(x.Steps, i) {
			open = append(open, i)
		}
	}
	var try func(open []int) bool
	try = func(open []int) bool {
		if len(open) == 0 {
			return rule.Holds(x, labels)
		}
		return slices.ContainsFunc(users, func(user int) bool {
			labels[open[0]] = user
			return try(open[1:])
		})
	}
	return try(open)
}

func TestBrokenIsWhatNoUsersMend(t *testing.T) {
	d := dice(41)
	kinds := map[int]int{}
	for range 400 {
		n := 1 + d.below(5)
		f := d.drawn(n, 5)
		r := again(t, f, 1, d.drawnCalls(n, d.below(12*n), true))
		var want []int
		for i, x := range f.Rules {
			if !holdsBy(x, r) {
				want = append(want, i)
				kinds[x.Kind]++
			}
		}
		got, why := audit.Broken(f, r.Log())
		if why != api.OK || !slices.Equal(got, want) {
			t.Fatalf("Broken of %v of %v: %v, %v, not %v", r.Log(), f, got, why, want)
		}
	}
	for kind := api.Apart; kind <= api.Many; kind++ {
		if kinds[kind] < 20 {
			t.Errorf("broken are, by kinds, %v", kinds)
		}
	}
}

// claimed is the log of a run of n steps in no order in which the users of some
// of them have claimed: -9 is who has not.
func claimed(t *testing.T, f api.Flow, users ...int) []api.Event {
	r := again(t, f, 1, nil)
	for step, user := range users {
		if user != -9 {
			r.Claim(step, user, 2)
		}
	}
	return r.Log()
}

// Of each kind: just at its edge, and one past it.
func TestBrokenByKind(t *testing.T) {
	steps := []int{0, 1, 2, 3}
	for _, x := range []struct {
		kind, k int
		kept    []int
		broken  []int
	}{
		{api.Apart, 0, []int{5, -9, 6, -9}, []int{5, -9, -9, 5}},
		{api.Apart, 0, []int{5, -1, 6, 7}, []int{5, -1, -1, 7}},
		{api.Same, 0, []int{5, -9, 5, -9}, []int{-9, 5, -9, 6}},
		{api.Same, 0, []int{-1, -9, -1, -1}, []int{-1, 0, -9, -9}},
		{api.Most, 1, []int{5, 6, 7, 8}, []int{5, -9, -9, 5}},
		{api.Most, 2, []int{5, 6, 5, 6}, []int{5, 5, -9, 5}},
		{api.Most, 4, []int{5, 5, 5, 5}, nil},
		{api.Most, api.MaxNumber, []int{5, 5, 5, 5}, nil},
		{api.Few, 1, []int{-1, -9, -1, -9}, []int{-9, 6, 5, -9}},
		{api.Few, 2, []int{5, 6, 6, 5}, []int{5, 6, -9, 7}},
		{api.Few, 4, []int{5, 6, 7, 8}, nil},
		{api.Many, 1, []int{5, 5, 5, 5}, nil},
		{api.Many, 2, []int{5, 5, 5, -9}, []int{5, 5, 5, 5}},
		{api.Many, 3, []int{5, -9, 5, -9}, []int{5, -9, 5, 5}},
		{api.Many, 3, []int{5, 6, 5, -1}, []int{-1, 5, -1, 5}},
		{api.Many, 4, []int{-9, -9, 6, -1}, []int{-9, 5, 5, -9}},
	} {
		f := loose(5)
		f.Rules = []api.Rule{{Kind: api.Few, K: 5, Steps: []int{4}}, {Kind: x.kind, K: x.k, Steps: steps}}
		for _, users := range [][]int{{}, {-9, -9, -9, -9, 5}, x.kept, append(slices.Clone(x.kept), x.kept...)[:5]} {
			got, why := audit.Broken(f, claimed(t, f, users...))
			is(t, fmt.Sprint(f.Rules[1], users), "[] ok", got, why.Error())
		}
		if x.broken != nil {
			got, why := audit.Broken(f, claimed(t, f, x.broken...))
			is(t, fmt.Sprint(f.Rules[1], x.broken), "[1] ok", got, why.Error())
		}
	}
}

// All rules that are broken are told, by their places; what is completed, and of
// a run that was aborted, counts as what is claimed.
func TestBrokenTellsAllPlaces(t *testing.T) {
	f := loose(3)
	for range 16 {
		f.Rules = append(f.Rules, api.Rule{Kind: api.Apart, Steps: []int{0, 1}}, api.Rule{Kind: api.Many, K: 2, Steps: []int{1, 2}})
	}
	log := claimed(t, f, 5, 5)
	want := "[0 2 4 6 8 10 12 14 16 18 20 22 24 26 28 30] ok"
	for _, more := range [][]api.Event{nil, {event(3, api.WasDone, 1, 5)}, {event(3, api.WasDone, 0, 5), event(3, api.GotStuck, -1, -1)}, {event(3, api.WasAborted, -1, -1)}} {
		got, why := audit.Broken(f, slices.Concat(log, more))
		is(t, "Broken", want, got, why.Error())
	}
}

// P23.4

func TestLoadsOfAnyEvents(t *testing.T) {
	least, most := -1<<63, 1<<63-1
	log := []api.Event{
		event(9, api.WasClaimed, 0, most),
		event(-9, api.WasClaimed, 0, 3),
		event(9, api.WasClaimed, -4, least),
		event(0, api.WasClaimed, 99, 3),
		event(0, api.WasDone, 0, 8),
		event(0, api.GotStuck, 0, 8),
		event(0, 0, 0, 8),
		event(0, -2, 0, 8),
		event(0, api.WasClaimed, 0, -1),
		event(0, api.WasClaimed, 0, 3),
		event(0, api.WasClaimed, 0, -1),
	}
	is(t, "Loads", fmt.Sprintf("[[%d 1] [-1 2] [3 3] [%d 1]]", least, most), audit.Loads(log))
	is(t, "Loads of none", "0", len(audit.Loads(log[4:8])))
}

func TestOrderOfAnyEvents(t *testing.T) {
	var log []api.Event
	var want []int
	d := dice(3)
	for range 300 {
		e := event(d.below(9), d.below(9)-1, d.below(40)-20, d.below(3))
		log = append(log, e)
		if e.Kind == api.WasDone {
			want = append(want, e.Step)
		}
	}
	is(t, "Order", fmt.Sprint(want), audit.Order(log))
	is(t, "Order of none", "0 0", len(audit.Order(nil)), len(audit.Order(finished()[:4])))
}

// P23.5

func TestSpansAsksTheTicks(t *testing.T) {
	for _, x := range []struct {
		want  string
		ticks []int
	}{
		{"[[0 3] [1 4]]", []int{1, 2, 3, 3, 5, 5, 9, 9}},
		{"[[0 0] [1 0]]", []int{0, 0, 0, 0, 0, 0, 0, 0}},
		{"[[0 999999999] [1 0]]", []int{0, 0, 0, 5, api.MaxTick, api.MaxTick, api.MaxTick, api.MaxTick}},
		{"clock", []int{-1, 2, 3, 3, 5, 5, 9, 9}},
		{"clock", []int{-1 << 63, 2, 3, 3, 5, 5, 9, 9}},
		{"clock", []int{1, 0, 3, 3, 5, 5, 9, 9}},
		{"clock", []int{1, 2, 3, 2, 5, 5, 9, 9}},
		{"clock", []int{1, 2, 3, 3, 5, 4, 9, 9}},
		{"clock", []int{1, 2, 3, 3, 5, 5, 4, 4}},
		{"clock", []int{1, 2, 3, 3, 5, 5, api.MaxTick + 1, api.MaxTick + 1}},
		{"clock", []int{1, 2, 3, 3, 5, 5, 1<<63 - 1, 1<<63 - 1}},
		{"clock", []int{1, api.MaxTick + 1, 3, 3, 5, 5, 9, 9}},
	} {
		log := finished()
		for i, tick := range x.ticks {
			log[i].Tick = tick
		}
		spans, why := audit.Spans(pay(t), log)
		if x.want == "clock" {
			is(t, "Spans", "clock 0", why.Error(), len(spans))
		} else {
			is(t, "Spans", x.want+" ok", spans, why.Error())
		}
	}
}

// What is no log of the flow is malformed, whatever its ticks.
func TestSpansRefusesWhatReplayDoes(t *testing.T) {
	log := []api.Event{event(5, api.Started, -1, -1), event(4, api.WasDone, 0, 7)}
	_, why := audit.Spans(pay(t), log)
	is(t, "Spans", "malformed", why.Error())
	_, why = audit.Spans(api.Flow{Name: "F"}, log)
	is(t, "Spans", "bad name", why.Error())
}

// By the steps, whatever the order in which they were completed; of those that
// are completed alone.
func TestSpansAreByTheSteps(t *testing.T) {
	d := dice(77)
	for range 200 {
		n := 1 + d.below(12)
		f := d.drawn(n, 0)
		r := again(t, f, 1, d.drawnCalls(n, 7*n, false))
		at := map[[2]int]int{}
		for _, e := range r.Log() {
			at[[2]int{e.Kind, e.Step}] = e.Tick
		}
		var want [][2]int
		for step := range n {
			if end, is := at[[2]int{api.WasDone, step}]; is {
				want = append(want, [2]int{step, end - at[[2]int{api.WasClaimed, step}]})
			}
		}
		spans, why := audit.Spans(f, r.Log())
		if why != api.OK || !slices.Equal(spans, want) {
			t.Fatalf("Spans of %v: %v, %v, not %v", r.Log(), spans, why, want)
		}
	}
}
