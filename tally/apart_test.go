package tally_test

import (
	"fmt"
	"slices"
	"testing"

	"provost/api"
	"provost/tally"
)

// R2: what is handed in stays as it is, its spare room too, and is not kept; what
// is told is the caller's own, its spare room too.

// roomy is a list in memory of its own, with spare room.
func roomy[T any](l []T) []T { return append(make([]T, 0, len(l)+3), l...) }

// copied is a problem of the same numbers, all of whose lists are roomy.
func copied(p api.Problem) api.Problem {
	p.Who, p.Fixed, p.Rules = roomy(p.Who), roomy(p.Fixed), roomy(p.Rules)
	for i := range p.Rules {
		p.Rules[i].Steps = roomy(p.Rules[i].Steps)
	}
	return p
}

// memory is all that stands in a problem's memory, its spare room too.
func memory(p api.Problem) string {
	text := fmt.Sprint(p)
	for _, x := range p.Rules {
		text += fmt.Sprint(x.Steps[:cap(x.Steps)])
	}
	return text + fmt.Sprint(p.Who[:cap(p.Who)], p.Fixed[:cap(p.Fixed)], p.Rules[:cap(p.Rules)])
}

// spoil writes into a list and into its spare room.
func spoil[T any](l []T, with T) {
	for i := range cap(l) {
		l[:cap(l)][i] = with
	}
}

// ruin writes into all memory that a problem has.
func ruin(p api.Problem) {
	for _, x := range p.Rules {
		spoil(x.Steps, -9)
	}
	spoil(p.Rules, r(99, -9, -9))
	spoil(p.Who, 1<<63)
	spoil(p.Fixed, -9)
}

// several are problems with and without plans.
func several() []api.Problem {
	return append(drawn()[:400], forAll(12, 2, r(api.Most, 6, steps(0, 12)...)), forAll(5, 4, r(api.Apart, 0, steps(0, 5)...)), api.Problem{})
}

func TestProblemsStay(t *testing.T) {
	for _, p := range append(several(), wrong()...) {
		given := copied(p)
		was := memory(given)
		tell(given)
		tally.Plans(given, 1)
		for range tally.All(given) {
			break
		}
		if now := memory(given); now != was {
			t.Fatalf("%s has become %s", was, now)
		}
	}
}

// What All was handed may be changed behind the call, within a range and between
// two of them: its plans stay those that it was called for.
func TestAllKeepsNoProblem(t *testing.T) {
	for _, p := range several() {
		want := fmt.Sprint(plansOf(p))
		given := copied(p)
		all := tally.All(given)
		ruin(given)
		if got := fmt.Sprint(firstOf(all, 1<<20)); got != want {
			t.Fatalf("%v: ruined ahead of the range: %s, not %s", p, got, want)
		}
		given = copied(p)
		all = tally.All(given)
		var l [][]int
		for plan := range all {
			ruin(given)
			l = append(l, plan)
		}
		if got := fmt.Sprint(l); got != want {
			t.Fatalf("%v: ruined within the range: %s, not %s", p, got, want)
		}
		if got := fmt.Sprint(firstOf(all, 1<<20)); got != want {
			t.Fatalf("%v: ruined between the ranges: %s, not %s", p, got, want)
		}
	}
}

// A problem that Check did not take when All was called tells nothing when it has
// become right.
func TestAllOfAProblemThatWasWrong(t *testing.T) {
	p := fixed(forAll(2, 2), -1, 9)
	all := tally.All(p)
	p.Fixed[1] = -1
	if got := firstOf(all, 99); len(got) > 0 {
		t.Error("All:", got)
	}
}

// The body may write into each plan that it is told, and keep it.
func TestPlansAreTheBodysOwn(t *testing.T) {
	for _, p := range several() {
		plans := plansOf(p)
		all := tally.All(p)
		i := 0
		for plan := range all {
			if !slices.Equal(plan, plans[i]) {
				t.Fatalf("%v: plan %d, behind others that were spoilt: %v, not %v", p, i, plan, plans[i])
			}
			spoil(plan, -9)
			i++
		}
		kept := firstOf(all, 1<<20)
		for j, plan := range kept {
			spoil(plan, -j-2)
		}
		for j, plan := range kept {
			if !slices.Equal(plan, slices.Repeat(u{-j - 2}, len(p.Who))) {
				t.Fatalf("%v: plan %d was spoilt with another one: %v", p, j, plan)
			}
		}
		if got := fmt.Sprint(firstOf(all, 1<<20)); got != fmt.Sprint(plans) {
			t.Fatalf("%v: spoilt with another range: %s", p, got)
		}
	}
}

func TestLiveIsTheCallersOwn(t *testing.T) {
	for _, p := range several() {
		given := copied(p)
		first, second := tally.Live(given), tally.Live(given)
		want := slices.Clone(first)
		spoil(first, 77)
		ruin(given)
		if third := tally.Live(p); !slices.Equal(second, want) || !slices.Equal(third, want) {
			t.Fatalf("%v: spoilt with another answer: %b, %b; not %b", p, second, third, want)
		}
	}
}

// R4: what was asked before is not to be seen in what is told.
func TestAnswersHangOnTheProblemAlone(t *testing.T) {
	all := append(several(), wrong()...)
	want := make([]string, len(all))
	for i, p := range all {
		want[i] = fmt.Sprint(tell(p))
	}
	for i := range all {
		i = len(all) - 1 - i
		if got := fmt.Sprint(tell(all[i])); got != want[i] {
			t.Fatalf("%v: %s, not %s", all[i], got, want[i])
		}
	}
}
