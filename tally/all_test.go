package tally_test

import (
	"fmt"
	"iter"
	"slices"
	"testing"

	"provost/api"
	"provost/solve"
	"provost/tally"
)

// P13.2

// firstOf are the first plans that a range tells, at most that many.
func firstOf(all iter.Seq[[]int], most int) [][]int {
	var l [][]int
	for plan := range all {
		if len(l) == most {
			break
		}
		l = append(l, plan)
	}
	return l
}

func TestAllEndsWithTheBody(t *testing.T) {
	for _, p := range drawn()[:400] {
		plans := plansOf(p)
		for most := range min(len(plans), 70) {
			if got := firstOf(tally.All(p), most); fmt.Sprint(got) != fmt.Sprint(plans[:most]) {
				t.Fatalf("%v: the first %d: %v, not %v", p, most, got, plans[:most])
			}
		}
	}
}

// Behind a body that ends the range nothing is told any more.
func TestAllTellsNothingBehindTheEnd(t *testing.T) {
	for _, p := range []api.Problem{{}, forAll(1, 1), forAll(3, 3), forAll(12, 64), forAll(3, 3, r(api.Apart, 0, 0, 1, 2))} {
		for last := range 6 {
			times := 0
			tally.All(p)(func([]int) bool {
				times++
				return times <= last
			})
			if want := min(last+1, int(tally.Plans(p, 99))); times != want {
				t.Errorf("%v: told %d times, not %d", p, times, want)
			}
		}
	}
}

func TestAllBeginsAnew(t *testing.T) {
	for _, p := range drawn()[:300] {
		all := tally.All(p)
		want := fmt.Sprint(plansOf(p))
		firstOf(all, 1)
		if got := fmt.Sprint(firstOf(all, 1<<20)); got != want {
			t.Fatalf("%v: behind a range that was ended: %s, not %s", p, got, want)
		}
		if got := fmt.Sprint(firstOf(all, 1<<20)); got != want {
			t.Fatalf("%v: behind a range that came to its end: %s, not %s", p, got, want)
		}
	}
}

// Ranges over one All, and over another one, go on by themselves within one another.
func TestAllWithinAll(t *testing.T) {
	p := forAll(3, 2, r(api.Many, 2, 0, 1, 2))
	all, want := tally.All(p), plansOf(p)
	var outer [][]int
	for plan := range all {
		outer = append(outer, plan)
		if got := firstOf(all, 99); fmt.Sprint(got) != fmt.Sprint(want) {
			t.Fatal("the inner range:", got)
		}
		tally.Live(p)
		firstOf(tally.All(forAll(4, 4)), 7)
	}
	if fmt.Sprint(outer) != fmt.Sprint(want) {
		t.Error("the outer range:", outer)
	}
}

// Two ranges are drawn from by turns, a third one is given up.
func TestAllPulled(t *testing.T) {
	p := open(4, who(u{3, 1}, u{0, 1, 2}, u{0, 3}))
	all := tally.All(p)
	first, end := iter.Pull(all)
	defer end()
	second, endSecond := iter.Pull(all)
	defer endSecond()
	third, endThird := iter.Pull(all)
	third()
	endThird()
	for i, want := range plansOf(p) {
		a, is := first()
		b, also := second()
		if !is || !also || !slices.Equal(a, want) || !slices.Equal(b, want) {
			t.Fatalf("plan %d: %v, %v; not %v", i, a, b, want)
		}
	}
	_, is := first()
	_, also := second()
	_, still := third()
	if is || also || still {
		t.Error("told behind the end:", is, also, still)
	}
}

// Of problems of any size the first plans are plans, and come in their order.
func TestAllInOrder(t *testing.T) {
	d := dice(21)
	several := []api.Problem{
		forAll(12, 64),
		forAll(12, 64, r(api.Apart, 0, steps(0, 12)...)),
		forAll(12, 12, r(api.Many, 11, steps(0, 12)...)),
		forAll(12, 64, r(api.Most, 3, steps(0, 12)...), r(api.Few, 5, steps(0, 12)...)),
		open(64, []uint64{1 << 63, 1<<63 | 1, 1 << 62, 3<<62 | 3}),
	}
	for i := range 100 {
		several = append(several, d.problem(4+i%4, 1+d.draw(12), d.draw(3)))
	}
	for _, p := range several {
		plans := firstOf(tally.All(p), 500)
		for i, plan := range plans {
			if !solve.Holds(p, plan) || i > 0 && !solve.Before(plans[i-1], plan) {
				t.Fatalf("%v: plan %d is %v, behind %v", p, i, plan, plans[max(i, 1)-1])
			}
		}
		if count := tally.Plans(p, 500); len(plans) != int(count) {
			t.Errorf("%v: %d plans, and Plans %d", p, len(plans), count)
		}
	}
}

// The users of one pattern: those of its first block go ahead of all others'.
func TestAllOfOnePattern(t *testing.T) {
	p := open(64, who(u{1, 63}, u{0, 1, 63}, u{1, 5}), r(api.Apart, 0, 0, 1, 2))
	want := []u{{1, 0, 5}, {1, 63, 5}, {63, 0, 1}, {63, 0, 5}, {63, 1, 5}}
	if got := firstOf(tally.All(p), 99); fmt.Sprint(got) != fmt.Sprint(want) {
		t.Error("All:", got)
	}
	p.Rules = []api.Rule{r(api.Same, 0, 0, 2), r(api.Apart, 0, 1, 2)}
	if got := firstOf(tally.All(p), 99); fmt.Sprint(got) != fmt.Sprint([]u{{1, 0, 1}, {1, 63, 1}}) {
		t.Error("All:", got)
	}
}
