package flow_test

import (
	"slices"
	"testing"

	"provost/api"
	"provost/flow"
)

// R2: what is told is the caller's own, its spare room too; what is handed in
// stays as it is.

// mark stands in spare room.
const mark = 77

// roomy is a list with spare room that is marked.
func roomy[T any](l []T, with T) []T {
	room := append(slices.Clone(l), with, with, with)
	return room[:len(l)]
}

// whole is a list with its spare room.
func whole[T any](l []T) []T { return l[:cap(l)] }

// handed is a flow as a caller may hand it in, with spare room everywhere.
func handed(f api.Flow) api.Flow {
	f.Steps = roomy(f.Steps, step("mark", "mark", mark))
	for i := range f.Steps {
		f.Steps[i].After = roomy(f.Steps[i].After, mark)
	}
	f.Rules = roomy(f.Rules, between(mark, mark, mark))
	for i := range f.Rules {
		f.Rules[i].Steps = roomy(f.Rules[i].Steps, mark)
	}
	return f
}

// copied is a flow with its spare room, all of it in memory of its own.
func copied(f api.Flow) api.Flow {
	f.Steps, f.Rules = slices.Clone(whole(f.Steps)), slices.Clone(whole(f.Rules))
	for i, s := range f.Steps {
		f.Steps[i].After = slices.Clone(whole(s.After))
	}
	for i, r := range f.Rules {
		f.Rules[i].Steps = slices.Clone(whole(r.Steps))
	}
	return f
}

// spoilAll writes into every list of a flow and into its spare room.
func spoilAll(f api.Flow) {
	for _, s := range whole(f.Steps) {
		spoilNumbers(s.After)
	}
	for _, r := range whole(f.Rules) {
		spoilNumbers(r.Steps)
	}
	for i := range whole(f.Steps) {
		whole(f.Steps)[i] = step("spoilt", "spoilt", mark)
	}
	for i := range whole(f.Rules) {
		whole(f.Rules)[i] = between(mark, mark, mark)
	}
}

func spoilNumbers(l []int) {
	for i := range whole(l) {
		whole(l)[i] = mark
	}
}

func TestArgumentsStay(t *testing.T) {
	var d draw = 3
	flows := []api.Flow{{}, payFlow(), three()}
	for _, x := range spoilt {
		f := three()
		x.what(&f)
		flows = append(flows, f)
	}
	for range 200 {
		flows = append(flows, d.drawn())
	}
	for _, f := range flows {
		f = handed(f)
		was := copied(f)
		flow.Check(f)
		flow.Print(f)
		flow.Find(f, "b")
		flow.Find(f, "mark")
		flow.Order(f)
		if !like(copied(f), was) {
			t.Errorf("what was handed in has changed: %v, not %v", copied(f), was)
		}
		if flow.Find(f, "mark") != -1 {
			t.Error("Find looks into spare room")
		}
	}
}

// What is told shares nothing with what was handed in or with another answer.
func TestFlowsThatAreToldAreTheCallersOwn(t *testing.T) {
	for _, text := range append([]string{"flow f\n" + steps(12) + "same s0, s1\nsame s0, s1\nend"}, texts...) {
		first, _ := flow.Parse(text)
		second, _ := flow.Parse(text)
		want := copied(second)
		spoilAll(first)
		third, fault := flow.Parse(text)
		if !like(copied(second), want) || fault != (api.Fault{}) || !like(third, second) {
			t.Errorf("Parse(%q) again: %v, %v", text, second, third)
		}
	}
}

// No two lists of one answer share memory: each is written into, spare room too, and
// the others stay.
func TestListsOfOneFlowAreApart(t *testing.T) {
	for _, text := range texts {
		f, _ := flow.Parse(text)
		var lists [][]int
		for _, s := range whole(f.Steps) {
			lists = append(lists, s.After)
		}
		for _, r := range whole(f.Rules) {
			lists = append(lists, r.Steps)
		}
		for i, l := range lists {
			for j := range whole(l) {
				whole(l)[j] = 1000 + i
			}
		}
		for i, l := range lists {
			if slices.ContainsFunc(whole(l), func(n int) bool { return n != 1000+i }) {
				t.Errorf("Parse(%q): list %d shares memory with another one", text, i)
			}
		}
	}
}

func TestOrdersAreApart(t *testing.T) {
	f := handed(three())
	first, _ := flow.Order(f)
	second, _ := flow.Order(f)
	if first == second {
		t.Error("one order told twice")
	}
	spoilAll(f)
	if first.Len() != 3 || !first.Before(0, 1) || !first.Before(2, 1) || first.Before(0, 2) {
		t.Error("the order hangs on what was handed in")
	}
}

func TestNilAndEmptyListsAreOne(t *testing.T) {
	empty := api.Flow{Name: "f", Steps: []api.Step{{Name: "a", Duty: "a", After: []int{}}}, Rules: []api.Rule{}}
	none := api.Flow{Name: "f", Steps: []api.Step{{Name: "a", Duty: "a"}}}
	for _, f := range []api.Flow{empty, none} {
		wantPrint(t, f, "flow f\nstep a\nend\n")
	}
	wantCheck(t, api.Flow{Name: "f", Steps: []api.Step{}, Rules: []api.Rule{}}, api.ErrArg)
	wantCheck(t, api.Flow{Name: "f"}, api.ErrArg)
}

// R3: with a fault the flow is zero; without one the fault is.
func TestFaultsComeAlone(t *testing.T) {
	for _, x := range faulty {
		f, fault := flow.Parse("flow f\nstep a\nstep b\n" + numbered(x.lines, 1) + "\nend\n")
		if f.Name != "" || len(f.Steps)+len(f.Rules) != 0 || fault.Why == api.OK {
			t.Errorf("of %.60q: %v beside %v", x.lines, f, fault)
		}
	}
}

// A fault leaves nothing behind for the next text.
func TestTextsAreApart(t *testing.T) {
	for _, x := range faulty {
		flow.Parse("flow f\nstep a\nstep b\n" + numbered(x.lines, 1) + "\nend\n")
		wantFlow(t, pay, payFlow())
	}
}
