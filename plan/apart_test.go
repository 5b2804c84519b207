package plan_test

import (
	"bytes"
	"fmt"
	"slices"
	"testing"

	"provost/api"
	"provost/plan"
)

// R2: what is handed in stays as it is, its spare room too, and is not kept; what
// is told is the caller's own, its spare room too.

// roomy is a list in memory of its own, with spare room.
func roomy[T any](l []T) []T { return append(make([]T, 0, len(l)+3), l...) }

// copied is a problem of the same numbers, all of whose lists are roomy.
func copied(p api.Problem) api.Problem {
	p.Who, p.Fixed, p.Rules = roomy(p.Who), roomy(p.Fixed), roomy(p.Rules)
	for i := range p.Rules {
		p.Rules[i].Steps = roomy(p.Rules[i].Steps)
	}
	return p
}

// memory is all that stands in a problem's memory, its spare room too.
func memory(p api.Problem) string {
	text := fmt.Sprint(p)
	for _, x := range p.Rules {
		text += fmt.Sprint(x.Steps[:cap(x.Steps)])
	}
	return text + fmt.Sprint(p.Who[:cap(p.Who)], p.Fixed[:cap(p.Fixed)], p.Rules[:cap(p.Rules)])
}

// spoil writes into a list and into its spare room.
func spoil[T any](l []T, with T) {
	for i := range cap(l) {
		l[:cap(l)][i] = with
	}
}

// ruin writes into all memory that a problem has.
func ruin(p api.Problem) {
	for _, x := range p.Rules {
		spoil(x.Steps, -9)
	}
	spoil(p.Rules, r(99, -9, -9))
	spoil(p.Who, 1<<63)
	spoil(p.Fixed, -9)
}

func TestProblemsAndPlansStay(t *testing.T) {
	for _, p := range append(drawn()[:400], wrong()...) {
		given, l := copied(p), roomy(make([]int, len(p.Who)))
		was, room := memory(given), fmt.Sprint(l[:cap(l)])
		for _, l := range [][]int{l, l[:len(l)/2]} {
			plan.Flaws(given, l)
			plan.Write(given, l)
		}
		if now := memory(given); now != was || fmt.Sprint(l[:cap(l)]) != room {
			t.Fatalf("%s has become %s, the plan %v", was, now, l[:cap(l)])
		}
	}
}

func TestBytesStay(t *testing.T) {
	for _, raw := range few(t) {
		for _, n := range []int{len(raw), len(raw) - 1} {
			given := roomy(raw)[:n]
			was := bytes.Clone(given[:cap(given)])
			plan.Read(given)
			if !bytes.Equal(given[:cap(given)], was) {
				t.Fatalf("%v has become %v", was, given[:cap(given)])
			}
		}
	}
}

// A certificate stays when the problem, the plan and another certificate of them
// are ruined, and the other way round.
func TestCertificatesAreTheCallersOwn(t *testing.T) {
	problems, plans := soluble(t)
	for i, p := range problems {
		given, l := copied(p), roomy(plans[i])
		was := memory(given)
		first, _ := plan.Write(given, l)
		second, _ := plan.Write(given, l)
		want := bytes.Clone(first)
		spoil(first, 99)
		if memory(given) != was || !slices.Equal(l, plans[i]) || !bytes.Equal(second, want) {
			t.Fatalf("%v, %v: spoilt with an answer: %v, %v, %v", p, plans[i], given, l, second)
		}
		ruin(given)
		spoil(l, -9)
		if !bytes.Equal(second, want) {
			t.Fatalf("%v: spoilt with the arguments: %v", p, second)
		}
	}
}

func TestFlawsAreTheCallersOwn(t *testing.T) {
	p := forAll(3, 2, r(api.Apart, 0, 0, 1, 2))
	for _, l := range []u{{0, 0, 7}, {0}} {
		first, _ := plan.Flaws(p, l)
		second, _ := plan.Flaws(p, l)
		want := slices.Clone(first)
		spoil(first, api.Flaw{Kind: -9})
		third, _ := plan.Flaws(p, l)
		if !slices.Equal(second, want) || !slices.Equal(third, want) {
			t.Errorf("Flaws(%v): spoilt: %v, %v; not %v", l, second, third, want)
		}
	}
}

// What was read stays when the bytes and what was read of them another time are
// ruined, and the other way round.
func TestReadSharesNothing(t *testing.T) {
	for _, raw := range few(t) {
		given := roomy(raw)
		first, l, _ := plan.Read(given)
		second, m, _ := plan.Read(given)
		want := show(second, m)
		ruin(first)
		spoil(l, -9)
		if !bytes.Equal(given, raw) || show(second, m) != want {
			t.Fatalf("%v: spoilt with an answer: %v, %v, %v", raw, given, second, m)
		}
		spoil(given, 255)
		if show(second, m) != want {
			t.Fatalf("%v: spoilt with the bytes: %v, %v", raw, second, m)
		}
	}
}

// No two lists of what was read share memory.
func TestListsOfReadAreApart(t *testing.T) {
	steps := u{0, 1, 2}
	p := forAll(3, 3, r(api.Apart, 0, steps...), r(api.Most, 1, steps...), r(api.Many, 3, steps...))
	raw, _ := plan.Write(p, steps)
	for i := range p.Rules {
		q, l, _ := plan.Read(raw)
		spoil(q.Rules[i].Steps, -9)
		q.Rules[i].Steps = steps
		if show(q, l) != show(p, steps) {
			t.Errorf("spoilt with rule %d: %v, %v", i, q, l)
		}
	}
	q, l, _ := plan.Read(raw)
	spoil(q.Fixed, -9)
	if !slices.Equal(l, steps) {
		t.Error("the plan was spoilt with Fixed:", l)
	}
	spoil(l, -7)
	if !slices.Equal(q.Fixed, u{-9, -9, -9}) {
		t.Error("Fixed was spoilt with the plan:", q.Fixed)
	}
}

// R4: what was asked before is not to be seen in an answer.
func TestAnswersHangOnTheArgumentsAlone(t *testing.T) {
	all := few(t)
	var told []string
	for _, raw := range all {
		p, l, err := plan.Read(raw)
		told = append(told, show(p, l)+err.Error())
	}
	for i := range all {
		place := (i*31 + 7) % len(all)
		plan.Read(all[i][:len(all[i])-1])
		p, l, err := plan.Read(all[place])
		if show(p, l)+err.Error() != told[place] {
			t.Fatalf("%v: %v, %v, %v; not %s", all[place], p, l, err, told[place])
		}
	}
}
