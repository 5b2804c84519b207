package hardy_test

import (
	"fmt"
	"slices"
	"testing"

	"provost/api"
	"provost/hardy"
)

// R2: what is handed in stays as it is, its spare room too, and is not kept; what
// is told is the caller's own, its spare room too.

// roomy is a list in memory of its own, with spare room.
func roomy[T any](l []T) []T { return append(make([]T, 0, len(l)+3), l...) }

// copied is a problem of the same numbers, all of whose lists are roomy.
func copied(p api.Problem) api.Problem {
	p.Who, p.Fixed, p.Rules = roomy(p.Who), roomy(p.Fixed), roomy(p.Rules)
	for i := range p.Rules {
		p.Rules[i].Steps = roomy(p.Rules[i].Steps)
	}
	return p
}

// memory is all that stands in a problem's memory, its spare room too.
func memory(p api.Problem) string {
	text := show(p)
	for _, x := range p.Rules {
		text += fmt.Sprint(x.Steps[:cap(x.Steps)])
	}
	return text + fmt.Sprint(p.Who[:cap(p.Who)], p.Fixed[:cap(p.Fixed)], p.Rules[:cap(p.Rules)])
}

// spoil writes into a list and into its spare room.
func spoil[T any](l []T, with T) {
	for i := range cap(l) {
		l[:cap(l)][i] = with
	}
}

// ruin writes into all memory that a problem has.
func ruin(p api.Problem) {
	for _, x := range p.Rules {
		spoil(x.Steps, -9)
	}
	spoil(p.Rules, r(99, -9, -9))
	spoil(p.Who, 1<<63)
	spoil(p.Fixed, -9)
}

// few are problems with and without plans.
func few() []api.Problem { return append(drawn()[:300], drawnGreat()[:30]...) }

func TestArgumentsStay(t *testing.T) {
	for _, p := range append(few(), wrong()...) {
		given := copied(p)
		was := memory(given)
		hardy.Lose(given, 0)
		hardy.Lose(given, 0b10101)
		tell(given)
		if now := memory(given); now != was {
			t.Fatalf("%s has become %s", was, now)
		}
	}
}

// What Lose told stays when the problem and another answer are ruined, and the
// other way round.
func TestLoseSharesNothing(t *testing.T) {
	for i, p := range few() {
		lost := uint64(i % 8)
		given := copied(p)
		was, want := memory(given), show(lose(p, lost))
		one, _ := hardy.Lose(given, lost)
		other, _ := hardy.Lose(given, lost)
		ruin(one)
		if memory(given) != was || show(other) != want {
			t.Fatalf("%v: spoilt with an answer: %v, %v", p, given, other)
		}
		ruin(given)
		if show(other) != want {
			t.Fatalf("%v: spoilt with the argument: %v, not %s", p, other, want)
		}
	}
}

// No two lists of what Lose told share memory, though those of what was handed in
// do.
func TestListsOfLoseAreApart(t *testing.T) {
	steps := u{0, 1, 2}
	p := fixed(forAll(3, 3, r(api.Apart, 0, steps...), r(api.Most, 1, steps...), r(api.Many, 3, steps...)), steps...)
	for place := range p.Rules {
		q, _ := hardy.Lose(p, 0)
		spoil(q.Rules[place].Steps, -9)
		q.Rules[place].Steps = u{0, 1, 2}
		if show(q) != show(p) {
			t.Errorf("spoilt with rule %d: %v", place, q)
		}
	}
	q, _ := hardy.Lose(p, 0)
	spoil(q.Fixed, -9)
	q.Fixed = u{0, 1, 2}
	if show(q) != show(p) || !slices.Equal(steps, u{0, 1, 2}) {
		t.Errorf("spoilt with Fixed: %v, %v", q, steps)
	}
}

func TestWeakSetsAreTheCallersOwn(t *testing.T) {
	for _, p := range few() {
		for many := range 4 {
			given := copied(p)
			one, is := hardy.Weak(given, many)
			other, _ := hardy.Weak(given, many)
			want := slices.Clone(one)
			spoil(one, -9)
			ruin(given)
			again, isAgain := hardy.Weak(p, many)
			if !slices.Equal(other, want) || !slices.Equal(again, want) || is != isAgain {
				t.Fatalf("%v: Weak(p, %d): %v, then %v, %v", p, many, want, other, again)
			}
		}
	}
}

// R4: what was asked before is not to be seen in an answer.
func TestAnswersHangOnTheArgumentsAlone(t *testing.T) {
	all := append(few(), wrong()...)
	var want []string
	for _, p := range all {
		want = append(want, fmt.Sprint(tell(p)))
	}
	for place, p := range slices.Backward(all) {
		if got := fmt.Sprint(tell(p)); got != want[place] {
			t.Fatalf("%v: %s, not %s", p, got, want[place])
		}
	}
}
