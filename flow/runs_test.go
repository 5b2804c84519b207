package flow_test

import (
	"testing"

	"provost/api"
	"provost/flow"
)

const pay = "flow pay\nstep ask\nstep sign needs approve after ask\napart ask, sign\nend\n"

func payFlow() api.Flow {
	return api.Flow{Name: "pay", Steps: []api.Step{step("ask", "ask"), step("sign", "approve", 0)}, Rules: []api.Rule{between(api.Apart, 0, 0, 1)}}
}

func TestRunsOfFlows(t *testing.T) {
	wantFlow(t, pay, payFlow())
	if text, err := flow.Print(payFlow()); text != pay || err != api.OK {
		t.Errorf("Print: %q, %v", text, err)
	}
	wantFlow(t, "flow flow\nstep step needs needs after end\nstep end\nmost 1 of end, step\nend", api.Flow{
		Name:  "flow",
		Steps: []api.Step{step("step", "needs", 1), step("end", "end")},
		Rules: []api.Rule{between(api.Most, 1, 0, 1)},
	})
}

func TestRunsOfFaults(t *testing.T) {
	wantFault(t, "flow pay\nend", "malformed 2:1")
	wantFault(t, "flow pay\nstep a after b\nstep b after a\nend", "cycle 4:1")
	wantFault(t, "flow pay\nstep a after c\nstep a\nend", "twice 3:6")
	wantFault(t, "flow pay\nstep a after c\nend", "no such step 2:14")
	wantFault(t, "flow pay\nstep a\napart a\nend", "bad argument 3:1")
	wantFault(t, "flow pay\nstep a\napart a, a\nend", "twice 3:10")
	wantFault(t, "flow pay\nstep a b\nend", "malformed 2:8")
	wantFault(t, "flow\n", "malformed 1:5")
	wantFault(t, "flow 7", "malformed 1:6")
	wantFault(t, "step a", "malformed 1:1")
	wantFault(t, "", "malformed 0:0")
	wantFault(t, "flow pay\nstep a", "malformed 2:7")
	wantFault(t, "flow pay\nstep a\nend\nend", "malformed 4:1")
	wantFault(t, "flow pay\nstep a\nstep b\nmany 3 of a, b\nend", "bad argument 4:1")
	wantFault(t, "flow pay\nstep a\nmany 0 of a\nend", "bad argument 3:1")
	wantFault(t, "flow pay\nstep a\nfew of a\nend", "malformed 3:5")
}

func TestExamples(t *testing.T) {
	f := payFlow()
	if n := flow.Find(f, "approve"); n != -1 {
		t.Error("Find of a name that no step has:", n)
	}
	got, _ := flow.Parse("flow f\nstep a\nend")
	if got.Steps[0].Duty != "a" {
		t.Error("the duty of a step without needs:", got.Steps[0].Duty)
	}
}
