package roll_test

import (
	"slices"
	"testing"

	"provost/api"
	"provost/org"
	"provost/roll"
)

const clerks = "org 5\nuser ann\nrole clerk\njoin ann of clerk\ngrant clerk, ask\nend\n"

// full has lines of each kind, as Print writes them.
const full = "org 7\nuser ann\nuser bob\nuser cyd\nrole boss\nrole clerk\njoin ann of boss\njoin ann of clerk\njoin bob of clerk\nover boss, clerk\ngrant boss, sign\ngrant clerk, ask\nbar bob, ask\nbar bob, sign\nlend bob, cyd until 8\nlend ann, bob until 9\nrest bob\nrest cyd\nend\n"

func TestRunsOfTexts(t *testing.T) {
	if text := roll.Print(org.New()); text != "org 1\nend\n" {
		t.Errorf("Print of a new one: %q", text)
	}
	wantPrint(t, clerks, clerks)
	o := must(t, clerks)
	if o.Now() != 5 || !o.Can("ann", "ask") {
		t.Error("Now, Can ann ask:", o.Now(), o.Can("ann", "ask"))
	}
	if text := roll.Print(nil); text != "" {
		t.Errorf("Print of nil: %q", text)
	}
}

func TestRunsOfFaults(t *testing.T) {
	wantFault(t, "org 0\nend", "bad argument 1:5")
	wantFault(t, "org\nend", "malformed 1:4")
	wantFault(t, "org 1\nuser ann\nuser ann\nend", "twice 3:1")
	wantFault(t, "org 1\njoin ann of clerk\nend", "no such user 2:1")
	wantFault(t, "org 1\nuser ann\njoin ann, clerk\nend", "malformed 3:9")
	wantFault(t, "org 9\nuser a\nuser b\nlend a, b until 9\nend", "bad argument 4:1")
	wantFault(t, "org 1\nuser ann", "malformed 2:9")
	wantFault(t, "", "malformed 0:0")
}

func TestRunOfALoan(t *testing.T) {
	o := must(t, "org 9\nuser a\nuser b\nlend a, b until 10\nend")
	if want := []api.Loan{{From: "a", To: "b", Until: 10}}; !slices.Equal(o.Loans(), want) {
		t.Error("Loans:", o.Loans())
	}
}

func TestExamples(t *testing.T) {
	o := must(t, clerks)
	if why := o.NoUser("ann"); why != api.OK {
		t.Fatal(why)
	}
	if text := roll.Print(o); text != "org 5\nrole clerk\ngrant clerk, ask\nend\n" {
		t.Errorf("Print of one whose user was made unknown: %q", text)
	}
	o = must(t, "org 1\nend")
	if o.Now() != 1 || o.Size() != 0 || len(o.Users())+len(o.Roles())+len(o.Loans()) != 0 || o.Epoch() != 0 {
		t.Error("an organisation without anybody:", picture(o))
	}
}
