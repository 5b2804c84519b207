package roll_test

import (
	"fmt"
	"slices"
	"strings"
	"testing"

	"provost/api"
	"provost/org"
	"provost/roll"
)

// P10.4: there and back.

// backed is the organisation that Parse makes of what Print writes.
func backed(t *testing.T, o *org.Org) *org.Org {
	t.Helper()
	checkBack(t, o)
	return must(t, roll.Print(o))
}

// wantList is for one thing that both must tell.
func wantList[T comparable](t *testing.T, what string, was, is []T, want ...T) {
	t.Helper()
	if !slices.Equal(was, want) || !slices.Equal(is, want) {
		t.Errorf("%s: %v there and %v back, not %v", what, was, is, want)
	}
}

// Each thing that P10.4 names, by hand.
func TestThereAndBack(t *testing.T) {
	o := must(t, full)
	b := backed(t, o)
	wantList(t, "Now", []int{o.Now()}, []int{b.Now()}, 7)
	wantList(t, "Users", o.Users(), b.Users(), "ann", "bob", "cyd")
	wantList(t, "Roles", o.Roles(), b.Roles(), "boss", "clerk")
	wantList(t, "Held ann", o.Held("ann"), b.Held("ann"), "boss", "clerk")
	wantList(t, "Held bob", o.Held("bob"), b.Held("bob"), "boss", "clerk")
	wantList(t, "Held cyd", o.Held("cyd"), b.Held("cyd"), "clerk")
	wantList(t, "Joined ann", o.Joined("ann"), b.Joined("ann"), "boss", "clerk")
	wantList(t, "Joined cyd", o.Joined("cyd"), b.Joined("cyd"))
	wantList(t, "Juniors boss", o.Juniors("boss"), b.Juniors("boss"), "clerk")
	wantList(t, "Duties boss", o.Duties("boss"), b.Duties("boss"), "sign")
	wantList(t, "Bars bob", o.Bars("bob"), b.Bars("bob"), "ask", "sign")
	wantList(t, "Rests ann, bob, cyd", []bool{o.Rests("ann"), o.Rests("bob"), o.Rests("cyd")}, []bool{b.Rests("ann"), b.Rests("bob"), b.Rests("cyd")}, false, true, true)
	wantList(t, "Loans", o.Loans(), b.Loans(), api.Loan{From: "bob", To: "cyd", Until: 8}, api.Loan{From: "ann", To: "bob", Until: 9})
	wantList(t, "Can ann ask, bob ask", []bool{o.Can("ann", "ask"), o.Can("bob", "ask")}, []bool{b.Can("ann", "ask"), b.Can("bob", "ask")}, true, false)
}

// The numbers need not be those that they were: who is known no more has none.
func TestNumbersMayChange(t *testing.T) {
	o := must(t, full)
	change(t, o, "nouser ann", "norole boss")
	b := backed(t, o)
	if n, is := b.Find("bob"); n != 0 || !is {
		t.Error("Find bob:", n, is)
	}
	if n, is := b.Number("ann"); n != 0 || is {
		t.Error("Number ann:", n, is)
	}
	if b.Size() != 2 {
		t.Error("Size:", b.Size())
	}
}

// What is made of a text goes on as what was written down goes on: names are known,
// loans end in their turn, the clock ticks.
func TestWhatComesBackGoesOnAlike(t *testing.T) {
	o := must(t, full)
	change(t, o, "user dan", "lend dan, ann until 9", "back bob, cyd")
	b := backed(t, o)
	for _, line := range []string{"tick 1", "lend bob, cyd until 9", "join cyd of boss", "user eve", "rest eve", "lend eve, ann until 10", "tick 1", "nouser bob", "norole clerk", "role clerk", "over clerk, boss", "wake cyd", "tick 1"} {
		change(t, o, line)
		change(t, b, line)
		if l := names(o); content(o, l) != content(b, l) || roll.Print(o) != roll.Print(b) {
			t.Fatalf("behind %s: %q there, %q back", line, roll.Print(o), roll.Print(b))
		}
	}
}

// crowd is an organisation of as many users and roles as there may be, with everything
// that there may be between them.
func crowd(t *testing.T) *org.Org {
	t.Helper()
	o := org.New()
	for i := range 64 {
		change(t, o, fmt.Sprintf("user u%d", i), fmt.Sprintf("role r%d", i))
	}
	for i := range 64 {
		change(t, o, fmt.Sprintf("bar u%d, d%d", i, i%7), fmt.Sprintf("grant r%d, d%d", i, i%9))
		for j := range 64 {
			if j%9 == i%9 {
				change(t, o, fmt.Sprintf("join u%d of r%d", i, j))
			}
			if j < i {
				change(t, o, fmt.Sprintf("over r%d, r%d", i, j))
			}
			if i%4 == 0 && j != i {
				change(t, o, fmt.Sprintf("lend u%d, u%d until %d", i, j, 2+(i*j)%11))
			}
		}
	}
	change(t, o, "rest u0", "rest u63")
	return o
}

func TestACrowdThereAndBack(t *testing.T) {
	o := crowd(t)
	backed(t, o)
	change(t, o, "tick 5", "nouser u7", "norole r50", "user u7")
	backed(t, o)
}

// granted is an organisation of one role and so many duties of 24 bytes, one of 1, and
// one of as many as are said.
func granted(t *testing.T, duties, last int) *org.Org {
	t.Helper()
	o := org.New()
	change(t, o, "role r", "grant r, a", "grant r, "+strings.Repeat("b", last))
	for i := range duties {
		change(t, o, fmt.Sprintf("grant r, c%023d", i))
	}
	return o
}

// A Print may be as long as a text may be, and longer: then it is no text for Parse.
func TestPrintsThatAreLong(t *testing.T) {
	o := granted(t, 1926, 14)
	text := roll.Print(o)
	if len(text) != 65536 {
		t.Fatal("a Print of", len(text), "bytes")
	}
	if b := must(t, text); roll.Print(b) != text || !slices.Equal(b.Duties("r"), o.Duties("r")) {
		t.Error("a Print of 65536 bytes does not come back")
	}
	o = granted(t, 1926, 15)
	text = roll.Print(o)
	if b, fault := roll.Parse(text); len(text) != 65537 || b != nil || fault != (api.Fault{Why: api.ErrTooBig}) {
		t.Errorf("Parse of a Print of %d bytes: %v", len(text), fault)
	}
	o = granted(t, 9000, 15)
	text = roll.Print(o)
	if b, fault := roll.Parse(text); text != printed(o) || b != nil || fault != (api.Fault{Why: api.ErrTooBig}) {
		t.Errorf("Parse of a Print of %d bytes: %v", len(text), fault)
	}
}

// call is a line for ask, drawn from the pool.
func (d *draw) call() string {
	user, role, duty := d.from(poolUsers()), d.from(poolRoles()), d.from(poolDuties())
	switch d.below(22) {
	case 0:
		return d.from([]string{"nouser " + user, "norole " + role, "wake " + user})
	case 1:
		return d.from([]string{"tick 1", "tick 3", "back " + user + ", " + d.from(poolUsers())})
	case 2, 3, 4:
		return "user " + user
	case 5, 6, 7:
		return "role " + role
	case 8, 9, 10:
		return "join " + user + " of " + role
	case 11, 12:
		return "over " + role + ", " + d.from(poolRoles())
	case 13, 14:
		return "grant " + role + ", " + duty
	case 15, 16:
		return "bar " + user + ", " + duty
	case 17:
		return "rest " + user
	}
	return fmt.Sprintf("lend %s, %s until %d", user, d.from(poolUsers()), d.below(60))
}

// Organisations that rows of calls have made, there and back behind each few calls.
func TestDrawnOrganisationsThereAndBack(t *testing.T) {
	d := draw(3)
	met := map[string]int{}
	for range 40 {
		o := org.New()
		for i := range 120 {
			ask(o, d.call())
			if i%5 == 0 {
				checkBack(t, o)
			}
		}
		for line := range strings.Lines(roll.Print(o)) {
			met[strings.Fields(line)[0]]++
		}
	}
	for _, word := range strings.Fields("user role join over grant bar lend rest") {
		if met[word] < 20 {
			t.Errorf("only %d lines of %s", met[word], word)
		}
	}
}
