package flow_test

import (
	"strings"
	"testing"

	"provost/api"
	"provost/flow"
	"provost/rule"
)

func wantPrint(t *testing.T, f api.Flow, want string) {
	t.Helper()
	checkFlow(t, f)
	if text, err := flow.Print(f); text != want || err != api.OK {
		t.Errorf("Print(%v): %q, %v, not %q", f, text, err, want)
	}
}

// P7.4, byte for byte.
func TestPrint(t *testing.T) {
	wantPrint(t, api.Flow{Name: "f", Steps: []api.Step{step("a", "a")}}, "flow f\nstep a\nend\n")
	wantPrint(t, api.Flow{Name: "f", Steps: []api.Step{step("a", "b")}}, "flow f\nstep a needs b\nend\n")
	wantPrint(t, api.Flow{Name: "f", Steps: []api.Step{step("a", "a", 1), step("b", "b")}}, "flow f\nstep a after b\nstep b\nend\n")
	wantPrint(t, api.Flow{Name: "f", Steps: []api.Step{step("z", "q", 1, 2), step("y", "y"), step("x", "z")}}, "flow f\nstep z needs q after y, x\nstep y\nstep x needs z\nend\n")
	wantPrint(t, three(), "flow f\nstep a needs d\nstep b after a, c\nstep c needs d\napart a, b\nmost 2 of a, b, c\nend\n")
	wantPrint(t, api.Flow{Name: "end", Steps: []api.Step{step("step", "needs", 1), step("after", "after")}, Rules: []api.Rule{
		between(api.Many, 2, 0, 1),
		between(api.Few, 999999999, 1),
		between(api.Same, 0, 0, 1),
		between(api.Same, 0, 0, 1),
	}}, "flow end\nstep step needs needs after after\nstep after\nmany 2 of step, after\nfew 999999999 of after\nsame step, after\nsame step, after\nend\n")
}

// The rules' lines are those of rule.Text, and the steps keep their order.
func TestPrintOfDrawnFlows(t *testing.T) {
	var d draw = 5
	for range 500 {
		f := d.drawn()
		text, err := flow.Print(f)
		if err != api.OK {
			continue
		}
		var names []string
		for _, s := range f.Steps {
			names = append(names, s.Name)
		}
		lines := strings.Split(text, "\n")
		for i, r := range f.Rules {
			if want, _ := rule.Text(r, names); lines[1+len(f.Steps)+i] != want {
				t.Errorf("Print(%v): %q, where %q is asked for", f, text, want)
			}
		}
		if last := len(lines) - 1; last != 2+len(f.Steps)+len(f.Rules) || lines[last-1] != "end" || lines[last] != "" {
			t.Errorf("Print(%v): %q", f, text)
		}
	}
}

// P7.6: the longest text that Print writes is read again.
func TestPrintOfTheGreatestFlow(t *testing.T) {
	f := api.Flow{Name: strings.Repeat("f", 24)}
	var all []int
	for i := range 12 {
		name := strings.Repeat(string(rune('a'+i)), 24)
		f.Steps = append(f.Steps, step(name, "z"+name[1:], all...))
		all = append(all, i)
	}
	for range 32 {
		f.Rules = append(f.Rules, between(api.Few, 999999999, all...))
	}
	if err := checkFlow(t, f); err != api.OK {
		t.Error(err)
	}
}

// P7.6, from texts of all shapes: what Parse tells, printed, is a fixed form.
func TestPrintOfWhatParseTells(t *testing.T) {
	for _, text := range texts {
		f, _ := flow.Parse(text)
		once, err := flow.Print(f)
		again, fault := flow.Parse(once)
		twice, _ := flow.Print(again)
		if err != api.OK || fault != (api.Fault{}) || !like(f, again) || once != twice {
			t.Errorf("of %q: %q, %v, then %q, %v", text, once, err, twice, fault)
		}
	}
}

// P7.5
func TestFind(t *testing.T) {
	f := three()
	for i, name := range []string{"a", "b", "c"} {
		if got := flow.Find(f, name); got != i {
			t.Errorf("Find(%s): %d", name, got)
		}
	}
	for _, name := range []string{"", "d", "f", "A", "aa", "a "} {
		if got := flow.Find(f, name); got != -1 {
			t.Errorf("Find(%q): %d", name, got)
		}
	}
	// Find does not look whether Check takes the flow.
	f.Name = ""
	f.Steps = append(f.Steps, step("b", "x"), step("", "x"), step("", "y"), step("A b", "x", 99))
	for name, want := range map[string]int{"b": 1, "": 4, "A b": 6, "x": -1} {
		if got := flow.Find(f, name); got != want {
			t.Errorf("Find(%q): %d, not %d", name, got, want)
		}
	}
	if flow.Find(api.Flow{}, "") != -1 || flow.Find(api.Flow{Steps: make([]api.Step, 99)}, "") != 0 {
		t.Error("Find of the empty name")
	}
}

func TestOrder(t *testing.T) {
	o, err := flow.Order(payFlow())
	if err != api.OK || o.Len() != 2 || !o.Before(0, 1) || o.Before(1, 0) {
		t.Error("Order of pay:", err)
	}
	o, err = flow.Order(three())
	if err != api.OK || o.Preds(1) != 0b101 || o.Preds(0)+o.Preds(2) != 0 {
		t.Error("Order of three:", err)
	}
}
