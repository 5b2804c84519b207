package flow_test

import (
	"math"
	"slices"
	"strings"
	"testing"

	"provost/api"
	"provost/flow"
)

// three is a sound flow of three steps and two rules.
func three() api.Flow {
	return api.Flow{
		Name:  "f",
		Steps: []api.Step{step("a", "d"), step("b", "b", 0, 2), step("c", "d")},
		Rules: []api.Rule{between(api.Apart, 0, 0, 1), between(api.Most, 2, 0, 1, 2)},
	}
}

// spoilt are ways to spoil a flow, in the order in which Check tells them.
var spoilt = []struct {
	why  api.Errno
	what func(f *api.Flow)
}{
	{api.ErrName, func(f *api.Flow) { f.Name = "F" }},
	{api.ErrTooBig, func(f *api.Flow) {
		f.Steps = append(f.Steps, make([]api.Step, 10)...)
	}},
	{api.ErrArg, func(f *api.Flow) { f.Steps = f.Steps[:0] }},
	{api.ErrName, func(f *api.Flow) { each(f.Steps, 0, func(s *api.Step) { s.Name = "" }) }},
	{api.ErrName, func(f *api.Flow) { each(f.Steps, 0, func(s *api.Step) { s.Duty = "-" }) }},
	{api.ErrArg, func(f *api.Flow) { each(f.Steps, 0, func(s *api.Step) { s.After = []int{2, 1} }) }},
	{api.ErrName, func(f *api.Flow) { each(f.Steps, 1, func(s *api.Step) { s.Duty = "b." }) }},
	{api.ErrTwice, func(f *api.Flow) { each(f.Steps, 1, func(s *api.Step) { s.Name = "a" }) }},
	{api.ErrArg, func(f *api.Flow) { each(f.Steps, 1, func(s *api.Step) { s.After = []int{-1} }) }},
	{api.ErrName, func(f *api.Flow) { each(f.Steps, 2, func(s *api.Step) { s.Duty = strings.Repeat("c", 25) }) }},
	{api.ErrTwice, func(f *api.Flow) { each(f.Steps, 2, func(s *api.Step) { s.Name = "a" }) }},
	{api.ErrArg, func(f *api.Flow) { each(f.Steps, 2, func(s *api.Step) { s.After = append(s.After, 99) }) }},
	{api.ErrTooBig, func(f *api.Flow) { f.Rules = append(f.Rules, make([]api.Rule, 31)...) }},
	{api.ErrArg, func(f *api.Flow) { f.Rules = append(f.Rules, between(api.Same, 0, 1)) }},
	{api.ErrCycle, func(f *api.Flow) { each(f.Steps, 2, func(s *api.Step) { s.After = append(s.After, 1) }) }},
	{api.ErrCycle, func(f *api.Flow) { each(f.Steps, 2, func(s *api.Step) { s.After = append(s.After, 2) }) }},
}

// each spoils step i, where there is one.
func each(steps []api.Step, i int, spoil func(s *api.Step)) {
	if i < len(steps) {
		spoil(&steps[i])
	}
}

// P7.3, P7.4, P7.5: each refusal.
func TestEachRefusal(t *testing.T) {
	if err := checkFlow(t, three()); err != api.OK {
		t.Error("of a sound flow:", err)
	}
	for i, x := range spoilt {
		f := three()
		x.what(&f)
		if err := checkFlow(t, f); err != x.why {
			t.Errorf("spoilt by way %d: %v, not %v", i, err, x.why)
		}
	}
}

// P7.3: two at once. (What the model tells is the first; some ways take others away.)
func TestTwoRefusals(t *testing.T) {
	for i, x := range spoilt {
		for j, y := range spoilt {
			f := three()
			x.what(&f)
			y.what(&f)
			if err := checkFlow(t, f); err == api.OK {
				t.Errorf("spoilt by ways %d and %d: OK", i, j)
			}
		}
	}
	for _, x := range []struct {
		first, second int
		why           api.Errno
	}{
		{0, 1, api.ErrName}, {0, 2, api.ErrName}, {0, 14, api.ErrName},
		{1, 3, api.ErrTooBig}, {1, 12, api.ErrTooBig}, {2, 12, api.ErrArg},
		{3, 5, api.ErrName}, {5, 6, api.ErrArg}, {5, 7, api.ErrArg}, {6, 7, api.ErrName},
		{7, 8, api.ErrTwice}, {7, 9, api.ErrTwice}, {8, 9, api.ErrArg}, {8, 10, api.ErrArg},
		{10, 11, api.ErrTwice}, {11, 12, api.ErrArg}, {9, 13, api.ErrName},
		{12, 13, api.ErrTooBig}, {12, 14, api.ErrTooBig}, {13, 14, api.ErrArg}, {13, 15, api.ErrArg},
	} {
		for _, pair := range [][2]int{{x.first, x.second}, {x.second, x.first}} {
			f := three()
			spoilt[pair[0]].what(&f)
			spoilt[pair[1]].what(&f)
			if err := flow.Check(f); err != x.why {
				t.Errorf("spoilt by ways %v: %v, not %v", pair, err, x.why)
			}
		}
	}
}

func wantCheck(t *testing.T, f api.Flow, want api.Errno) {
	t.Helper()
	if err := checkFlow(t, f); err != want {
		t.Errorf("Check(%v): %v, not %v", f, err, want)
	}
}

func TestNumbersOfAfter(t *testing.T) {
	for _, x := range []struct {
		after []int
		want  api.Errno
	}{
		{nil, api.OK},
		{[]int{}, api.OK},
		{[]int{0}, api.OK},
		{[]int{1}, api.OK},
		{[]int{3}, api.OK},
		{[]int{0, 1, 3}, api.OK},
		{[]int{2}, api.ErrCycle},
		{[]int{0, 1, 2, 3}, api.ErrCycle},
		{[]int{4}, api.ErrArg},
		{[]int{0, 4}, api.ErrArg},
		{[]int{-1}, api.ErrArg},
		{[]int{-1, 0}, api.ErrArg},
		{[]int{0, -1}, api.ErrArg},
		{[]int{0, 0}, api.ErrArg},
		{[]int{2, 2}, api.ErrArg},
		{[]int{1, 0}, api.ErrArg},
		{[]int{0, 3, 1}, api.ErrArg},
		{[]int{math.MaxInt}, api.ErrArg},
		{[]int{math.MinInt}, api.ErrArg},
		{[]int{math.MaxInt, math.MinInt}, api.ErrArg},
		{[]int{64}, api.ErrArg},
		{[]int{1 << 32}, api.ErrArg},
	} {
		f := api.Flow{Name: "f", Steps: []api.Step{step("a", "a"), step("b", "b"), step("c", "c", x.after...), step("d", "d")}}
		wantCheck(t, f, x.want)
	}
}

func TestNames(t *testing.T) {
	for _, name := range []string{"", "A", "-", "a b", "a,", "1", "é", "a\n", "a\x00", strings.Repeat("a", 25), "\xff"} {
		wantCheck(t, api.Flow{Name: name, Steps: []api.Step{step("a", "a")}}, api.ErrName)
		wantCheck(t, api.Flow{Name: "f", Steps: []api.Step{step(name, "a")}}, api.ErrName)
		wantCheck(t, api.Flow{Name: "f", Steps: []api.Step{step("a", name)}}, api.ErrName)
		wantCheck(t, api.Flow{Name: "f", Steps: []api.Step{step("a", "a"), step("b", name), step("a", "a")}}, api.ErrName)
	}
	for _, name := range append([]string{"a-", "z9", strings.Repeat("a", 24)}, words...) {
		wantCheck(t, api.Flow{Name: name, Steps: []api.Step{step(name, name)}}, api.OK)
		wantCheck(t, api.Flow{Name: name, Steps: []api.Step{step(name, "other")}}, api.OK)
	}
}

// stepsOf are n steps with names of their own and one duty.
func stepsOf(n int) []api.Step {
	var l []api.Step
	for i := range n {
		l = append(l, step(string(rune('a'+i)), "d"))
	}
	return l
}

func TestHowManyStepsAndRules(t *testing.T) {
	for n := range 15 {
		want := api.OK
		if n == 0 {
			want = api.ErrArg
		} else if n > 12 {
			want = api.ErrTooBig
		}
		wantCheck(t, api.Flow{Name: "f", Steps: stepsOf(n)}, want)
	}
	for n := range 35 {
		want := api.OK
		if n > 32 {
			want = api.ErrTooBig
		}
		f := api.Flow{Name: "f", Steps: stepsOf(12), Rules: slices.Repeat([]api.Rule{between(api.Few, 1, 11)}, n)}
		wantCheck(t, f, want)
	}
	wantCheck(t, api.Flow{}, api.ErrName)
	wantCheck(t, api.Flow{Name: "f", Steps: make([]api.Step, 100000)}, api.ErrTooBig)
	wantCheck(t, api.Flow{Name: "f", Steps: stepsOf(1), Rules: make([]api.Rule, 100000)}, api.ErrTooBig)
}

// Rules are looked at under the number of the flow's steps.
func TestRulesOfFlows(t *testing.T) {
	wrong := []api.Rule{{}, between(6, 1, 0), between(-1, 0, 0, 1), between(api.Apart, 0, 0), between(api.Apart, 1, 0, 1), between(api.Same, 0, 1, 0), between(api.Same, 0, 1, 1), between(api.Most, 0, 0), between(api.Most, 1), between(api.Few, 1<<30, 0), between(api.Many, 3, 0, 1), between(api.Many, 1, -1)}
	for n := 2; n <= 12; n++ {
		sound := []api.Rule{between(api.Apart, 0, 0, n-1), between(api.Same, 0, n-2, n-1), between(api.Most, api.MaxNumber, n-1), between(api.Many, 2, 0, n-1)}
		wantCheck(t, api.Flow{Name: "f", Steps: stepsOf(n), Rules: sound}, api.OK)
		for _, r := range append(slices.Clone(wrong), between(api.Few, 1, n), between(api.Apart, 0, 0, n)) {
			wantCheck(t, api.Flow{Name: "f", Steps: stepsOf(n), Rules: append(slices.Clone(sound), r)}, api.ErrArg)
			wantCheck(t, api.Flow{Name: "f", Steps: stepsOf(n), Rules: append([]api.Rule{r}, sound...)}, api.ErrArg)
		}
	}
}

func TestCycles(t *testing.T) {
	for n := 1; n <= 12; n++ {
		f := api.Flow{Name: "f", Steps: stepsOf(n)}
		for i := range f.Steps[1:] {
			f.Steps[i+1].After = []int{i}
		}
		wantCheck(t, f, api.OK)
		f.Steps[0].After = []int{n - 1}
		wantCheck(t, f, api.ErrCycle)
	}
}

// drawn is a flow of steps and rules, most often a sound one.
func (d *draw) drawn() api.Flow {
	n := 1 + d.below(12)
	f := api.Flow{Name: "f", Steps: stepsOf(n)}
	for i := range f.Steps {
		f.Steps[i].Duty = string(rune('a' + d.below(12)))
		if d.below(12) > 0 {
			f.Steps[i].After = d.some(max(i, 1), min(i, 4))
		} else {
			f.Steps[i].After = d.some(n, 2)
		}
	}
	for range d.below(6) {
		r := between(1+d.below(5), 0, d.some(n, 5)...)
		if r.Kind > api.Same {
			r.K = 1 + d.below(max(1, len(r.Steps)))
		}
		if len(r.Steps) > 1 || d.below(40) == 0 {
			f.Rules = append(f.Rules, r)
		}
	}
	return f
}

// P7.3 to P7.6, over many flows.
func TestDrawnFlows(t *testing.T) {
	var d draw = 11
	told := map[api.Errno]int{}
	for range 6000 {
		told[checkFlow(t, d.drawn())]++
	}
	if told[api.OK] < 2000 || told[api.ErrArg] < 50 || told[api.ErrCycle] < 50 {
		t.Error("drawn too few of a kind:", told)
	}
}
