package org_test

import (
	"slices"
	"strconv"
	"testing"

	"provost/api"
	"provost/org"
)

// P9.1, P9.2

func TestNames(t *testing.T) {
	for _, op := range []string{"User", "Role"} {
		o, m := org.New(), &model{}
		for _, name := range append(wrongNames(), edgeNames()...) {
			follow(t, o, m, call{op: op, a: name})
			follow(t, o, m, call{op: op, a: name})
		}
		for _, name := range wrongNames() {
			refuse(t, o, call{op: op, a: name}, api.ErrName)
			refuse(t, o, call{op: "No" + op, a: name}, map[string]api.Errno{"User": api.ErrUser, "Role": api.ErrRole}[op])
		}
		for i, name := range edgeNames() {
			refuse(t, o, call{op: op, a: name}, api.ErrTwice)
			known := map[string][]string{"User": o.Users(), "Role": o.Roles()}[op]
			if i >= len(known) || known[i] != name {
				t.Errorf("%s %s: %v are known", op, name, known)
			}
		}
	}
}

// A name is a user's and a role's each for itself, with numbers of its own.
func TestUsersAndRolesAreApart(t *testing.T) {
	o, m := org.New(), &model{}
	for _, c := range of("User ann; Role boss; Role ann; User boss; Join ann boss; Join boss ann; Over boss ann; Grant ann ann; Grant boss boss; Bar ann boss; Rest ann; NoUser ann; NoRole ann; NoUser boss; User boss; NoRole boss") {
		follow(t, o, m, c)
	}
	o = made(t, "User ann; Role boss; Role ann; User boss")
	if n, is := o.Find("boss"); n != 1 || !is {
		t.Error("Find boss:", n, is)
	}
	if n, is := o.Number("ann"); n != 0 || !is {
		t.Error("Number ann:", n, is)
	}
	wantList(t, "Roles", o.Roles(), "boss", "ann")
	// A role's name is no user's.
	change(t, o, "Role clerk")
	if n, is := o.Number("clerk"); n != 0 || is || o.Size() != 2 {
		t.Error("Number clerk:", n, is, o.Size())
	}
}

// numbered is the name that gets the number i in full.
func numbered(i int) string { return "n" + strconv.Itoa(63-i) }

// full is an organisation in which 64 names of users and of roles have numbers, and its model.
func full(t *testing.T) (*org.Org, *model) {
	t.Helper()
	o, m := org.New(), &model{}
	for i := range 64 {
		for _, op := range []string{"User", "Role"} {
			n, err := do(o, call{op: op, a: numbered(i)})
			wantNumber(t, op, n, err, i, api.OK)
			do(m, call{op: op, a: numbered(i)})
		}
	}
	return o, m
}

func TestSixtyFourNamesAndOneMore(t *testing.T) {
	o, _ := full(t)
	for _, op := range []string{"User", "Role"} {
		refuse(t, o, call{op: op, a: "more"}, api.ErrTooBig)
		// What is wrong besides is told as the call names it.
		refuse(t, o, call{op: op, a: numbered(0)}, api.ErrTwice)
		refuse(t, o, call{op: op, a: numbered(63)}, api.ErrTwice)
		for _, name := range wrongNames() {
			refuse(t, o, call{op: op, a: name}, api.ErrName)
		}
	}
	if o.Size() != 64 || len(o.Users()) != 64 || len(o.Roles()) != 64 {
		t.Error("names:", o.Size(), len(o.Users()), len(o.Roles()))
	}
	for i := range 64 {
		if name, known := o.Name(i); name != numbered(i) || !known || o.Users()[i] != name || o.Roles()[i] != name {
			t.Error("Name", i, name, known)
		}
	}
}

// With one more name than users or roles alone, the other ones still have room.
func TestTooManyUsersAreNotTooManyRoles(t *testing.T) {
	for _, ops := range []pair{{"User", "Role"}, {"Role", "User"}} {
		o := org.New()
		for i := range 64 {
			do(o, call{op: ops[0], a: numbered(i)})
		}
		refuse(t, o, call{op: ops[0], a: "more"}, api.ErrTooBig)
		n, err := do(o, call{op: ops[1], a: "more"})
		wantNumber(t, ops[1]+" more", n, err, 0, api.OK)
	}
}

// Where 64 names have numbers, a name that goes makes no room for another one,
// and comes again under its number; all that go, too.
func TestNamesComeAgainWhereItIsFull(t *testing.T) {
	for _, op := range []string{"User", "Role"} {
		o, m := full(t)
		for _, i := range []int{7, 0, 63} {
			follow(t, o, m, call{op: "No" + op, a: numbered(i)})
			refuse(t, o, call{op: op, a: "more"}, api.ErrTooBig)
			if op == "User" && o.Size() != 64 {
				t.Error("Size:", o.Size())
			}
		}
		for _, i := range []int{63, 7, 0} {
			n, err := do(o, call{op: op, a: numbered(i)})
			wantNumber(t, op, n, err, i, api.OK)
			do(m, call{op: op, a: numbered(i)})
		}
		for i := range 64 {
			wantErr(t, "No"+op, second(do(o, call{op: "No" + op, a: numbered(i)})), api.OK)
		}
		refuse(t, o, call{op: op, a: "more"}, api.ErrTooBig)
		for i := range 64 {
			n, err := do(o, call{op: op, a: numbered(63 - i)})
			wantNumber(t, op, n, err, 63-i, api.OK)
		}
	}
}

func second(_ int, err api.Errno) api.Errno { return err }

// A user who goes and comes again has the number again, and nothing of what was had.
func TestAUserComesAgain(t *testing.T) {
	o := made(t, "User ann; User bob; User cyd; Role clerk; Role boss; Over boss clerk; Grant clerk ask; Grant boss sign; Grant boss pay")
	change(t, o, "Join bob boss; Join ann clerk; Bar bob pay; Bar bob ask; Rest bob; Lend bob ann 9; Lend bob cyd 7; Lend ann bob 8; Lend cyd bob 8; Lend ann cyd 8")
	wantList(t, "Held cyd", o.Held("cyd"), "clerk", "boss")
	change(t, o, "NoUser bob")
	if l := o.Loans(); !slices.Equal(l, []api.Loan{{From: "ann", To: "cyd", Until: 8}}) {
		t.Error("Loans:", l)
	}
	wantGone(t, o, "bob", 1)
	wantList(t, "Held cyd", o.Held("cyd"), "clerk")
	wantList(t, "Held ann", o.Held("ann"), "clerk")
	wantWho(t, o, "sign", 0)
	wantWho(t, o, "ask", 5)
	n, err := o.User("bob")
	wantNumber(t, "User bob", n, err, 1, api.OK)
	if o.Rests("bob") || len(o.Bars("bob"))+len(o.Joined("bob"))+len(o.Held("bob")) != 0 || len(o.Loans()) != 1 {
		t.Error("bob has still:", o.Rests("bob"), o.Bars("bob"), o.Joined("bob"), o.Held("bob"), o.Loans())
	}
	// And what was had can be given anew.
	change(t, o, "Join bob boss; Bar bob pay; Rest bob; Wake bob; Lend bob ann 9; Lend bob cyd 9; Lend ann bob 9; Lend cyd bob 9")
	wantWho(t, o, "sign", 7)
	wantWho(t, o, "pay", 5)
}

// wantGone: of a user who is known no more there is the number alone.
func wantGone(t *testing.T, o *org.Org, name string, number int) {
	t.Helper()
	if n, is := o.Find(name); n != 0 || is {
		t.Errorf("Find %s: %d, %v", name, n, is)
	}
	if n, is := o.Number(name); n != number || !is {
		t.Errorf("Number %s: %d, %v", name, n, is)
	}
	if s, is := o.Name(number); s != name || is {
		t.Errorf("Name(%d): %s, %v", number, s, is)
	}
	if o.Rests(name) || len(o.Bars(name))+len(o.Joined(name))+len(o.Held(name)) != 0 || slices.Contains(o.Users(), name) {
		t.Errorf("%s is gone, and has %v %v %v", name, o.Bars(name), o.Joined(name), o.Held(name))
	}
	for _, duty := range pool() {
		wantCan(t, o, name, duty, false)
	}
}

// NoUser takes each loan from and to the user, whatever the two numbers are, and no other one.
func TestNoUserTakesTheUsersLoansAlone(t *testing.T) {
	for _, gone := range []int{0, 1, 31, 62, 63} {
		o, m := full(t)
		others := []int{0, 1, 2, 31, 32, 62, 63}
		for _, x := range others {
			for _, y := range others {
				if x != y {
					c := call{"Lend", numbered(x), numbered(y), 5 + (x+3*y)%7}
					do(m, c)
					wantErr(t, "Lend", second(do(o, c)), api.OK)
				}
			}
		}
		follow(t, o, m, call{op: "NoUser", a: numbered(gone)})
		follow(t, o, m, call{op: "User", a: numbered(gone)})
		if got := len(o.Loans()); got != len(m.Loans()) {
			t.Error("loans:", got, len(m.Loans()))
		}
	}
}

// A role that goes and comes again has the number again, and nothing of what was had.
func TestARoleComesAgain(t *testing.T) {
	o := made(t, "User ann; User bob; User cyd; Role boss; Role clerk; Role temp; Over boss clerk; Over clerk temp; Over boss temp")
	change(t, o, "Grant boss sign; Grant clerk ask; Grant clerk sign; Grant temp pay; Join ann boss; Join bob clerk; Join bob temp; Join cyd clerk")
	wantWho(t, o, "pay", 7)
	change(t, o, "NoRole clerk")
	wantList(t, "Roles", o.Roles(), "boss", "temp")
	wantList(t, "Juniors boss", o.Juniors("boss"), "temp")
	wantList(t, "Juniors clerk", o.Juniors("clerk"))
	wantList(t, "Duties clerk", o.Duties("clerk"))
	wantList(t, "Joined bob", o.Joined("bob"), "temp")
	wantList(t, "Joined cyd", o.Joined("cyd"))
	wantList(t, "Held ann", o.Held("ann"), "boss", "temp")
	wantWho(t, o, "ask", 0)
	wantWho(t, o, "pay", 3)
	n, err := o.Role("clerk")
	wantNumber(t, "Role clerk", n, err, 1, api.OK)
	wantList(t, "Juniors boss", o.Juniors("boss"), "temp")
	wantList(t, "Juniors clerk", o.Juniors("clerk"))
	wantList(t, "Duties clerk", o.Duties("clerk"))
	wantList(t, "Joined bob", o.Joined("bob"), "temp")
	wantList(t, "Joined cyd", o.Joined("cyd"))
	wantList(t, "Held ann", o.Held("ann"), "boss", "temp")
	// It may lie the other way round now; and what was had can be given anew.
	change(t, o, "Over clerk boss")
	refuse(t, o, call{op: "Over", a: "boss", b: "clerk"}, api.ErrCycle)
	change(t, o, "NoOver clerk boss; Join bob clerk; Join cyd clerk; Grant clerk ask; Grant clerk sign; Over boss clerk")
	wantWho(t, o, "ask", 7)
	wantWho(t, o, "pay", 3)
}

// NoRole takes what the role alone tied: a way down that leads round it stays.
func TestNoRoleCutsWaysThroughIt(t *testing.T) {
	o, m := org.New(), &model{}
	for _, c := range of("User ann; User bob; Role a; Role b; Role boss; Role clerk; Role temp; Over a b; Over b temp; Over a clerk; Over clerk temp; Over boss a; Grant temp pay; Grant b ask; Join ann boss; Lend ann bob 5; NoRole b; NoRole clerk; Role b; Role clerk; Over boss temp; NoRole temp; Role temp; NoRole boss; Role boss") {
		follow(t, o, m, c)
	}
}

func TestWhoIsNotKnownCannotGo(t *testing.T) {
	o := made(t, "User ann; NoUser ann; Role boss; NoRole boss; User boss; Role ann")
	for _, name := range append(wrongNames(), "bob", "ann") {
		refuse(t, o, call{op: "NoUser", a: name}, api.ErrUser)
	}
	for _, name := range append(wrongNames(), "bob", "boss") {
		refuse(t, o, call{op: "NoRole", a: name}, api.ErrRole)
	}
}
