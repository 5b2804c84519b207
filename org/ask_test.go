package org_test

import (
	"math"
	"slices"
	"testing"

	"provost/org"
)

// P9.7

func TestANewOne(t *testing.T) {
	o, m := org.New(), &model{}
	if picture(o) != picture(m) {
		t.Errorf("a new one tells\n%s\nnot\n%s", picture(o), picture(m))
	}
	if o.Now() != 1 || o.Epoch() != 0 || o.Size() != 0 {
		t.Error("a new one:", o.Now(), o.Epoch(), o.Size())
	}
}

// Names stand by their numbers, and these by when a name came first: not by
// bytes, and not by when it came again.
func TestUsersAndRolesByTheirNumbers(t *testing.T) {
	for _, op := range []string{"User", "Role"} {
		o := made(t, op+" eve; "+op+" bob; "+op+" dan; "+op+" ann; No"+op+" bob; No"+op+" eve; "+op+" cyd; "+op+" bob")
		known := func() []string { return append(o.Users(), o.Roles()...) }
		wantList(t, op+"s", known(), "bob", "dan", "ann", "cyd")
		change(t, o, op+" eve")
		wantList(t, op+"s", known(), "eve", "bob", "dan", "ann", "cyd")
	}
}

func TestNumbersAndNames(t *testing.T) {
	o := made(t, "User eve; User bob; User ann; NoUser bob; Role cyd")
	for _, x := range []struct {
		name   string
		number int
		known  bool
	}{{"eve", 0, true}, {"bob", 1, false}, {"ann", 2, true}} {
		if n, is := o.Number(x.name); n != x.number || !is {
			t.Errorf("Number %s: %d, %v", x.name, n, is)
		}
		if s, is := o.Name(x.number); s != x.name || is != x.known {
			t.Errorf("Name(%d): %s, %v", x.number, s, is)
		}
		if n, is := o.Find(x.name); is != x.known || is && n != x.number || !is && n != 0 {
			t.Errorf("Find %s: %d, %v", x.name, n, is)
		}
	}
	for _, name := range append(wrongNames(), "cyd", "dan") {
		if n, is := o.Number(name); n != 0 || is {
			t.Errorf("Number %q: %d, %v", name, n, is)
		}
		if n, is := o.Find(name); n != 0 || is {
			t.Errorf("Find %q: %d, %v", name, n, is)
		}
	}
	for _, n := range []int{3, 4, 63, 64, 65, -1, -2, -64, 1 << 32, 1<<32 + 1, math.MaxInt, math.MinInt} {
		if s, is := o.Name(n); s != "" || is {
			t.Errorf("Name(%d): %q, %v", n, s, is)
		}
	}
	if o.Size() != 3 {
		t.Error("Size:", o.Size())
	}
}

// Joined, Juniors and Held stand by the roles' numbers; Duties and Bars by their bytes.
func TestTheOrdersOfLists(t *testing.T) {
	o := made(t, "User ann; User bob; Role temp; Role boss; Role clerk; Role a; Role b")
	change(t, o, "Join ann clerk; Join ann temp; Join ann b; Join bob boss; Lend bob ann 9; Over a clerk; Over a temp; Over a b; Over b clerk")
	wantList(t, "Joined ann", o.Joined("ann"), "temp", "clerk", "b")
	wantList(t, "Held ann", o.Held("ann"), "temp", "boss", "clerk", "b")
	wantList(t, "Juniors a", o.Juniors("a"), "temp", "clerk", "b")
	change(t, o, "NoRole temp; Role temp; Join ann temp; Over a temp")
	wantList(t, "Joined ann", o.Joined("ann"), "temp", "clerk", "b")
	wantList(t, "Juniors a", o.Juniors("a"), "temp", "clerk", "b")
	for _, duty := range []string{"b", "a-1", "a", "z", "a1", "aa", "ab", "a-"} {
		change(t, o, "Grant a "+duty+"; Bar ann "+duty)
	}
	wantList(t, "Duties a", o.Duties("a"), "a", "a-", "a-1", "a1", "aa", "ab", "b", "z")
	wantList(t, "Bars ann", o.Bars("ann"), "a", "a-", "a-1", "a1", "aa", "ab", "b", "z")
}

// Of a user or role that is not known, or is so no more, nothing is told.
func TestOfWhoIsNotKnown(t *testing.T) {
	o := office(t)
	change(t, o, "Rest ann; Bar cyd ask; Join cyd temp; NoUser ann; NoUser cyd; NoRole boss; NoRole clerk")
	for _, name := range append(wrongNames(), "ann", "cyd", "dan", "eve", "boss", "clerk", "a", "ask") {
		if len(o.Held(name))+len(o.Joined(name))+len(o.Juniors(name))+len(o.Duties(name))+len(o.Bars(name)) != 0 || o.Rests(name) {
			t.Errorf("of %q is told: %v %v %v %v %v %v", name, o.Held(name), o.Joined(name), o.Juniors(name), o.Duties(name), o.Bars(name), o.Rests(name))
		}
		for _, duty := range []string{"ask", "sign", "pay"} {
			wantCan(t, o, name, duty, false)
		}
	}
}

func TestRests(t *testing.T) {
	o := made(t, "User ann; User bob; Role cyd; Rest bob")
	for name, want := range map[string]bool{"ann": false, "bob": true, "cyd": false, "dan": false, "": false} {
		if o.Rests(name) != want {
			t.Errorf("Rests %q: %v", name, !want)
		}
	}
}

// P9.8

func TestHeldDownALongWay(t *testing.T) {
	o, m := full(t)
	for i := range 63 {
		c := call{op: "Over", a: numbered(63 - i), b: numbered(62 - i)}
		do(o, c)
		do(m, c)
	}
	for _, c := range []call{{op: "Join", a: numbered(5), b: numbered(20)}, {op: "Lend", a: numbered(5), b: numbered(63), n: 9}, {op: "Join", a: numbered(63), b: numbered(9)}, {op: "Grant", a: numbered(0), b: "ask"}, {op: "Join", a: numbered(0), b: numbered(63)}} {
		follow(t, o, m, c)
	}
	if len(o.Held(numbered(0))) != 64 || len(o.Held(numbered(5))) != 21 || len(o.Held(numbered(63))) != 21 || o.Who("ask") != 1<<0|1<<5|1<<63 {
		t.Error("Held:", len(o.Held(numbered(0))), len(o.Held(numbered(5))), len(o.Held(numbered(63))), o.Who("ask"))
	}
}

// Loans in a ring: each has what the one ahead was given, and no more of the ring.
func TestLoansInARing(t *testing.T) {
	o, m := org.New(), &model{}
	for _, c := range of("User ann; User bob; User cyd; User dan; Role a; Role b; Role boss; Role clerk; Role temp; Over b temp; Grant a ask; Grant b sign; Grant temp pay; Join ann a; Join bob b; Join cyd boss; Join dan clerk; Lend ann bob 9; Lend bob cyd 9; Lend cyd dan 9; Lend dan ann 9; Lend bob ann 5; Rest bob; Bar cyd pay; Tick 4; Leave bob b; Join bob temp; NoOver b temp; Wake bob; NoUser cyd") {
		follow(t, o, m, c)
	}
	o = made(t, "User ann; User bob; User cyd; Role a; Role b; Role temp; Join ann a; Join bob b; Join cyd temp; Lend ann bob 9; Lend bob cyd 9; Lend cyd ann 9")
	wantList(t, "Held ann", o.Held("ann"), "a", "temp")
	wantList(t, "Held bob", o.Held("bob"), "a", "b")
	wantList(t, "Held cyd", o.Held("cyd"), "b", "temp")
	wantList(t, "Joined ann", o.Joined("ann"), "a")
}

// Several lend to one; one lends to several.
func TestLoansFromSeveralAndToSeveral(t *testing.T) {
	o := made(t, "User ann; User bob; User cyd; User dan; Role a; Role b; Role temp; Over b temp; Join ann a; Join bob b; Lend ann dan 5; Lend bob dan 7; Lend ann cyd 9")
	wantList(t, "Held dan", o.Held("dan"), "a", "b", "temp")
	wantList(t, "Held cyd", o.Held("cyd"), "a")
	change(t, o, "Tick 4")
	wantList(t, "Held dan", o.Held("dan"), "b", "temp")
	wantList(t, "Held cyd", o.Held("cyd"), "a")
	change(t, o, "NoUser bob")
	wantList(t, "Held dan", o.Held("dan"))
	change(t, o, "Join ann temp; Leave ann a")
	wantList(t, "Held cyd", o.Held("cyd"), "temp")
}

// Whoever rests has the roles, and lends them, all the same; and can do nothing, also by loans.
func TestWhoRestsHasAndLends(t *testing.T) {
	o := made(t, "User ann; User bob; Role boss; Role clerk; Over boss clerk; Grant clerk ask; Grant boss sign; Join ann boss; Rest ann; Lend ann bob 9")
	wantList(t, "Held ann", o.Held("ann"), "boss", "clerk")
	wantList(t, "Joined ann", o.Joined("ann"), "boss")
	wantList(t, "Held bob", o.Held("bob"), "boss", "clerk")
	wantCan(t, o, "ann", "ask", false)
	wantCan(t, o, "bob", "ask", true)
	wantCan(t, o, "bob", "sign", true)
	change(t, o, "Rest bob")
	wantList(t, "Held bob", o.Held("bob"), "boss", "clerk")
	wantCan(t, o, "bob", "ask", false)
	wantWho(t, o, "ask", 0)
	change(t, o, "Wake ann")
	wantWho(t, o, "ask", 1)
	wantWho(t, o, "sign", 1)
}

// P9.9

// A bar keeps its user alone, from its duty alone, whatever role has it, and
// goes not along with a loan, neither from who is kept nor to.
func TestBars(t *testing.T) {
	o := made(t, "User ann; User bob; User cyd; Role boss; Role clerk; Over boss clerk; Grant clerk ask; Grant boss ask; Grant boss sign; Join ann boss; Join ann clerk; Join bob clerk; Lend ann cyd 9; Bar ann ask; Bar cyd sign")
	wantCan(t, o, "ann", "ask", false)
	wantCan(t, o, "ann", "sign", true)
	wantCan(t, o, "bob", "ask", true)
	wantCan(t, o, "cyd", "ask", true)
	wantCan(t, o, "cyd", "sign", false)
	wantWho(t, o, "ask", 6)
	wantWho(t, o, "sign", 1)
	wantList(t, "Held ann", o.Held("ann"), "boss", "clerk")
	// A bar holds of what is granted later, too, and of who gets a role later.
	change(t, o, "Bar bob pay; Grant clerk pay; Join cyd clerk")
	wantWho(t, o, "pay", 5)
	wantWho(t, o, "sign", 1)
	change(t, o, "Unbar bob pay; Unbar ann ask")
	wantWho(t, o, "pay", 7)
	wantWho(t, o, "ask", 7)
}

// A grant to a junior is enough; one to a senior is not.
func TestGrantsGoUp(t *testing.T) {
	o := made(t, "User ann; User bob; User cyd; Role boss; Role clerk; Role temp; Over boss clerk; Over clerk temp; Join ann boss; Join bob clerk; Join cyd temp; Grant boss sign; Grant clerk pay; Grant temp ask")
	wantWho(t, o, "sign", 1)
	wantWho(t, o, "pay", 3)
	wantWho(t, o, "ask", 7)
	change(t, o, "Revoke clerk pay; Grant temp pay; NoOver boss clerk")
	wantWho(t, o, "pay", 6)
	wantWho(t, o, "ask", 6)
}

// Who is just those who can, each by the bit of the number, of all 64 numbers.
func TestWhoAgainstCan(t *testing.T) {
	o, m := full(t)
	d := draw(7)
	name := func() string { return numbered(d.below(64)) }
	ops := []string{"Join", "Join", "Join", "Join", "Over", "Over", "Grant", "Bar", "Lend", "Lend", "Lend", "Rest", "Wake", "NoUser", "User", "User", "NoRole", "Role", "Role", "Tick"}
	can := 0
	for i := range 4000 {
		c := call{op: d.from(ops), a: name(), b: name(), n: o.Now() + d.below(200)}
		switch c.op {
		case "Grant", "Bar":
			c.b = pool()[8+d.below(3)]
		case "Tick":
			c.n = d.below(2)
		}
		n, err := do(o, c)
		if want, wantErr := do(m, c); n != want || err != wantErr {
			t.Fatalf("%v: %d, %v, not %d, %v", c, n, err, want, wantErr)
		}
		if i%50 == 0 {
			can += wantWhoCan(t, o)
		}
	}
	if is, must := picture(o), picture(m); is != must {
		t.Errorf("it is\n%s\nnot\n%s", is, must)
	}
	if can < 1000 {
		t.Error("too little to look at:", can)
	}
}

// wantWhoCan holds Who against Can, and tells how many can something.
func wantWhoCan(t *testing.T, o *org.Org) int {
	t.Helper()
	n := 0
	for _, duty := range []string{"ask", "sign", "pay", "none", ""} {
		who := o.Who(duty)
		for i := range 64 {
			can := o.Can(numbered(i), duty)
			if can != (who>>i&1 == 1) {
				t.Errorf("%s: Who %b, but Can of %d is %v", duty, who, i, can)
			}
			if can && (!slices.Contains(o.Users(), numbered(i)) || o.Rests(numbered(i)) || slices.Contains(o.Bars(numbered(i)), duty)) {
				t.Errorf("%d is not known, rests or is kept from %s, and can", i, duty)
			}
			if can {
				n++
			}
		}
	}
	return n
}

func TestWhoHasTheHighestBit(t *testing.T) {
	o, _ := full(t)
	change(t, o, "Grant "+numbered(63)+" ask; Join "+numbered(63)+" "+numbered(63))
	wantWho(t, o, "ask", 1<<63)
	change(t, o, "Lend "+numbered(63)+" "+numbered(0)+" 9; Rest "+numbered(63))
	wantWho(t, o, "ask", 1)
	for i := 1; i < 64; i++ {
		change(t, o, "Grant "+numbered(i)+" sign; Join "+numbered(i)+" "+numbered(64-i))
	}
	wantWho(t, o, "sign", math.MaxUint64&^(1<<63))
}
