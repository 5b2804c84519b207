package org_test

import (
	"slices"
	"testing"

	"provost/api"
	"provost/org"
)

func wantNumber(t *testing.T, call string, n int, err api.Errno, want int, wantErr api.Errno) {
	t.Helper()
	if n != want || err != wantErr {
		t.Errorf("%s: %d, %v, not %d, %v", call, n, err, want, wantErr)
	}
}

func wantErr(t *testing.T, call string, err, want api.Errno) {
	t.Helper()
	if err != want {
		t.Errorf("%s: %v, not %v", call, err, want)
	}
}

func wantList(t *testing.T, call string, got []string, want ...string) {
	t.Helper()
	if !slices.Equal(got, want) {
		t.Errorf("%s: %q, not %q", call, got, want)
	}
}

func wantCan(t *testing.T, o *org.Org, user, duty string, want bool) {
	t.Helper()
	if o.Can(user, duty) != want {
		t.Errorf("Can(%s, %s): %v", user, duty, !want)
	}
}

func wantWho(t *testing.T, o *org.Org, duty string, want uint64) {
	t.Helper()
	if got := o.Who(duty); got != want {
		t.Errorf("Who(%s): %b, not %b", duty, got, want)
	}
}

// The chapter's runs, in their order, on one organisation: each row is a step
// of it, for each begins where the one ahead of it ended.
func TestRuns(t *testing.T) {
	o := org.New()
	for _, row := range []func(*testing.T, *org.Org){runUsers, runRoles, runGrants, runLoan, runNoLoans, runBars, runNoUser, runNoRole, runRefusals} {
		row(t, o)
	}
}

func runUsers(t *testing.T, o *org.Org) {
	n, err := o.User("ann")
	wantNumber(t, "User ann", n, err, 0, api.OK)
	n, err = o.User("bob")
	wantNumber(t, "User bob", n, err, 1, api.OK)
	n, err = o.User("ann")
	wantNumber(t, "User ann", n, err, 0, api.ErrTwice)
	n, err = o.User("")
	wantNumber(t, "User of no text", n, err, 0, api.ErrName)
	n, err = o.User("A")
	wantNumber(t, "User A", n, err, 0, api.ErrName)
}

func runRoles(t *testing.T, o *org.Org) {
	n, err := o.Role("clerk")
	wantNumber(t, "Role clerk", n, err, 0, api.OK)
	n, err = o.Role("boss")
	wantNumber(t, "Role boss", n, err, 1, api.OK)
	wantErr(t, "Over boss clerk", o.Over("boss", "clerk"), api.OK)
	wantErr(t, "Over clerk boss", o.Over("clerk", "boss"), api.ErrCycle)
	wantErr(t, "Over clerk clerk", o.Over("clerk", "clerk"), api.ErrCycle)
	wantErr(t, "Over boss clerk", o.Over("boss", "clerk"), api.ErrTwice)
}

func runGrants(t *testing.T, o *org.Org) {
	wantErr(t, "Grant clerk ask", o.Grant("clerk", "ask"), api.OK)
	wantErr(t, "Grant boss sign", o.Grant("boss", "sign"), api.OK)
	wantErr(t, "Join ann boss", o.Join("ann", "boss"), api.OK)
	wantList(t, "Held ann", o.Held("ann"), "clerk", "boss")
	wantCan(t, o, "ann", "ask", true)
	wantCan(t, o, "bob", "ask", false)
}

func runLoan(t *testing.T, o *org.Org) {
	wantErr(t, "Lend ann bob 5", o.Lend("ann", "bob", 5), api.OK)
	wantCan(t, o, "bob", "sign", true)
	wantErr(t, "Tick(3)", o.Tick(3), api.OK)
	wantCan(t, o, "bob", "sign", true)
	before := o.Epoch()
	wantErr(t, "Tick(1)", o.Tick(1), api.OK)
	wantCan(t, o, "bob", "sign", false)
	if before != 9 || o.Epoch() != 10 {
		t.Error("Epoch before and behind the last Tick:", before, o.Epoch())
	}
}

func runNoLoans(t *testing.T, o *org.Org) {
	wantErr(t, "Lend ann ann 9", o.Lend("ann", "ann", 9), api.ErrArg)
	wantErr(t, "Lend ann bob 4", o.Lend("ann", "bob", 4), api.ErrArg)
	wantErr(t, "Lend ann cyd 9", o.Lend("ann", "cyd", 9), api.ErrUser)
	wantErr(t, "Lend ann bob 10^9", o.Lend("ann", "bob", 1000000000), api.ErrArg)
}

func runBars(t *testing.T, o *org.Org) {
	wantErr(t, "Bar ann ask", o.Bar("ann", "ask"), api.OK)
	wantCan(t, o, "ann", "ask", false)
	wantWho(t, o, "ask", 0)
	wantErr(t, "Unbar ann ask", o.Unbar("ann", "ask"), api.OK)
	wantErr(t, "Rest ann", o.Rest("ann"), api.OK)
	wantCan(t, o, "ann", "ask", false)
	wantWho(t, o, "sign", 0)
}

func runNoUser(t *testing.T, o *org.Org) {
	wantErr(t, "NoUser ann", o.NoUser("ann"), api.OK)
	if n, is := o.Find("ann"); n != 0 || is {
		t.Error("Find ann:", n, is)
	}
	if name, is := o.Name(0); name != "ann" || is {
		t.Error("Name(0):", name, is)
	}
	wantList(t, "Users", o.Users(), "bob")
	n, err := o.User("ann")
	wantNumber(t, "User ann", n, err, 0, api.OK)
	wantList(t, "Held ann", o.Held("ann"))
	if o.Size() != 2 {
		t.Error("Size:", o.Size())
	}
}

func runNoRole(t *testing.T, o *org.Org) {
	wantErr(t, "NoRole clerk", o.NoRole("clerk"), api.OK)
	wantList(t, "Juniors boss", o.Juniors("boss"))
	n, err := o.Role("clerk")
	wantNumber(t, "Role clerk", n, err, 0, api.OK)
	wantList(t, "Duties clerk", o.Duties("clerk"))
}

func runRefusals(t *testing.T, o *org.Org) {
	wantErr(t, "Tick(0)", o.Tick(0), api.ErrArg)
	wantErr(t, "Tick(999999999)", o.Tick(999999999), api.ErrClock)
	wantErr(t, "Leave bob clerk", o.Leave("bob", "clerk"), api.ErrLink)
	wantErr(t, "Back ann bob", o.Back("ann", "bob"), api.ErrLink)
	wantErr(t, "Wake bob", o.Wake("bob"), api.ErrLink)
	wantErr(t, "Revoke boss ask", o.Revoke("boss", "ask"), api.ErrLink)
}

// The chapter's first example.
func TestWhoBorrowsOfABorrowerHasNothingOfTheLenders(t *testing.T) {
	o := made(t, "User ann; User bob; User cyd; Role clerk; Role boss; Role temp; Over boss clerk; Grant clerk ask; Grant boss sign; Grant temp pay")
	change(t, o, "Join ann boss; Join bob temp; Lend ann bob 5; Lend bob cyd 5")
	wantList(t, "Held bob", o.Held("bob"), "clerk", "boss", "temp")
	wantList(t, "Held cyd", o.Held("cyd"), "temp")
	wantCan(t, o, "bob", "ask", true)
	wantCan(t, o, "bob", "sign", true)
	wantCan(t, o, "cyd", "pay", true)
	wantCan(t, o, "cyd", "ask", false)
	wantCan(t, o, "cyd", "sign", false)
}

// The chapter's second example.
func TestADutyThatNobodyWasGranted(t *testing.T) {
	o := made(t, "User ann; User bob; Role boss; Role clerk; Over boss clerk; Grant boss sign; Join ann boss; Lend ann bob 9; Bar bob pay")
	for _, duty := range append(wrongNames(), "pay", "ask", "ann", "boss") {
		wantWho(t, o, duty, 0)
		for _, user := range append(wrongNames(), "ann", "bob", "cyd", "boss") {
			wantCan(t, o, user, duty, false)
		}
	}
	// One that a role is granted which nobody has is such a duty too.
	change(t, o, "Role temp; Grant temp pay; Over temp boss")
	wantWho(t, o, "pay", 0)
	wantWho(t, o, "sign", 3)
}

// Rows of calls, against the model: each call's answer, and all that is told behind it.
func TestRowsOfCalls(t *testing.T) {
	met := map[string][]api.Errno{}
	for _, row := range rows() {
		o, m := org.New(), &model{}
		for _, c := range row {
			follow(t, o, m, c)
		}
		for _, c := range row {
			if _, err := do(m, c); !slices.Contains(met[c.op], err) {
				met[c.op] = append(met[c.op], err)
			}
		}
	}
	for _, k := range kinds() {
		if !slices.Contains(met[k], api.OK) || len(met[k]) < 2 {
			t.Errorf("the rows meet too little of %s: %v", k, met[k])
		}
	}
}
