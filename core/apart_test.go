package core_test

import (
	"fmt"
	"slices"
	"testing"

	"provost/api"
	"provost/core"
)

// R2: what is handed in stays as it is, its spare room too, and is not kept; what
// is told is the caller's own, its spare room too.

// roomy is a list in memory of its own, with spare room.
func roomy[T any](l []T) []T { return append(make([]T, 0, len(l)+3), l...) }

// copied is a problem of the same numbers, all of whose lists are roomy.
func copied(p api.Problem) api.Problem {
	p.Who, p.Fixed, p.Rules = roomy(p.Who), roomy(p.Fixed), roomy(p.Rules)
	for i := range p.Rules {
		p.Rules[i].Steps = roomy(p.Rules[i].Steps)
	}
	return p
}

// memory is all that stands in a problem's memory, its spare room too.
func memory(p api.Problem) string {
	text := show(p)
	for _, x := range p.Rules {
		text += fmt.Sprint(x.Steps[:cap(x.Steps)])
	}
	return text + fmt.Sprint(p.Who[:cap(p.Who)], p.Fixed[:cap(p.Fixed)], p.Rules[:cap(p.Rules)])
}

// spoil writes into a list and into its spare room.
func spoil[T any](l []T, with T) {
	for i := range cap(l) {
		l[:cap(l)][i] = with
	}
}

// ruin writes into all memory that a problem has.
func ruin(p api.Problem) {
	for _, x := range p.Rules {
		spoil(x.Steps, -9)
	}
	spoil(p.Rules, r(99, -9, -9))
	spoil(p.Who, 1<<63)
	spoil(p.Fixed, -9)
}

// few are problems with and without plans.
func few() []api.Problem { return append(drawn()[:300], drawnGreat()[:50]...) }

func TestArgumentsStay(t *testing.T) {
	for _, p := range append(few(), wrong()...) {
		given, l := copied(p), roomy(upTo(len(p.Who)))
		was, room := memory(given), fmt.Sprint(l[:cap(l)])
		core.Why(given)
		core.Without(given, l[:min(len(l), len(p.Rules))], l)
		core.Without(given, nil, nil)
		core.Without(given, u{99}, l)
		if now := memory(given); now != was || fmt.Sprint(l[:cap(l)]) != room {
			t.Fatalf("%s has become %s, the places %v", was, now, l[:cap(l)])
		}
	}
}

// What Without told stays when the problem, the places and another answer are
// ruined, and the other way round.
func TestWithoutSharesNothing(t *testing.T) {
	d := dice(21)
	for _, p := range few() {
		rules, steps := roomy(d.some(len(p.Rules))), roomy(d.some(len(p.Who)))
		given := copied(p)
		was, want := memory(given), show(without(p, rules, steps))
		first, _ := core.Without(given, rules, steps)
		second, _ := core.Without(given, rules, steps)
		ruin(first)
		if memory(given) != was || show(second) != want {
			t.Fatalf("%v: spoilt with an answer: %v, %v", p, given, second)
		}
		ruin(given)
		spoil(rules, -9)
		spoil(steps, -9)
		if show(second) != want {
			t.Fatalf("%v: spoilt with the arguments: %v, not %s", p, second, want)
		}
	}
}

// No two lists of what Without told share memory, though those of what was handed
// in do.
func TestListsOfWithoutAreApart(t *testing.T) {
	steps := u{0, 1, 2}
	p := fixed(forAll(3, 3, r(api.Apart, 0, steps...), r(api.Most, 1, steps...), r(api.Many, 3, steps...)), steps...)
	for place := range p.Rules {
		q, _ := core.Without(p, nil, nil)
		spoil(q.Rules[place].Steps, -9)
		q.Rules[place].Steps = u{0, 1, 2}
		if show(q) != show(p) {
			t.Errorf("spoilt with rule %d: %v", place, q)
		}
	}
	q, _ := core.Without(p, nil, nil)
	spoil(q.Fixed, -9)
	q.Fixed = u{0, 1, 2}
	if show(q) != show(p) || !slices.Equal(steps, u{0, 1, 2}) {
		t.Errorf("spoilt with Fixed: %v, %v", q, steps)
	}
}

func TestReasonsAreTheCallersOwn(t *testing.T) {
	for _, p := range stuck(t, drawn()) {
		given := copied(p)
		rules, steps, _ := core.Why(given)
		wantRules, wantSteps := slices.Clone(rules), slices.Clone(steps)
		otherRules, otherSteps, _ := core.Why(given)
		spoil(otherRules, -9)
		ruin(given)
		if !slices.Equal(otherSteps, wantSteps) || !slices.Equal(rules, wantRules) || !slices.Equal(steps, wantSteps) {
			t.Fatalf("%v: spoilt: %v, %v, %v", p, rules, steps, otherSteps)
		}
		spoil(steps, -7)
		if !slices.Equal(rules, wantRules) || slices.Contains(otherRules, -7) {
			t.Fatalf("%v: spoilt with the steps: %v, %v", p, rules, otherRules)
		}
		checkTold(t, p, wantRules, wantSteps, true)
	}
}

// R4: what was asked before is not to be seen in an answer.
func TestAnswersHangOnTheArgumentsAlone(t *testing.T) {
	told := func(p api.Problem) string {
		rules, steps, is := core.Why(p)
		q, err := core.Without(p, rules, steps)
		return fmt.Sprint(rules, steps, is, q, err)
	}
	all := append(few(), wrong()...)
	var want []string
	for _, p := range all {
		want = append(want, told(p))
	}
	for i := range all {
		place := len(all) - 1 - i
		if got := told(all[place]); got != want[place] {
			t.Fatalf("%v: %s, not %s", all[place], got, want[place])
		}
	}
}
