package roll_test

import (
	"fmt"
	"slices"
	"strings"
	"testing"

	"provost/api"
	"provost/org"
	"provost/roll"
)

// P10.2: what a text's calls answer, and which of several faults is told.

// company is ahead of the lines of these tests: it has users and roles, and what can
// be there only once.
const company = "org 5\nuser a\nuser b\nrole r\nrole s\nrole q\njoin a of r\nover r, s\nover s, q\ngrant r, d\nbar a, d\nlend a, b until 9\nrest b\n"

// many are lines of users or roles, v0 and so on.
func many(word string, n int) string {
	var text strings.Builder
	for i := range n {
		fmt.Fprintf(&text, "%s v%d\n", word, i)
	}
	return strings.TrimSuffix(text.String(), "\n")
}

// faulty are lines with a fault each, behind company, by the point of P10.2 to which it
// belongs, and in which of them and in which column it is.
var faulty = []struct {
	point     int
	why       api.Errno
	line, col int
	lines     string
}{
	{1, api.ErrForm, 1, 9, "over r, S"},
	{1, api.ErrName, 1, 6, "user " + strings.Repeat("q", 25)},
	{1, api.ErrForm, 1, 17, "lend b, a until 09"},
	{1, api.ErrForm, 1, 17, "lend b, a until 1000000000"},
	{2, api.ErrForm, 1, 5, "user"},
	{2, api.ErrForm, 1, 7, "join a, r"},
	{2, api.ErrForm, 1, 1, "fire a"},
	{2, api.ErrForm, 1, 11, "lend b, a for 9"},
	{4, api.ErrTwice, 1, 1, "user a"},
	{4, api.ErrTwice, 1, 3, "  user b # b"},
	{4, api.ErrTwice, 1, 1, "role r"},
	{4, api.ErrTwice, 1, 2, "\trole q"},
	{4, api.ErrTooBig, 63, 1, many("user", 64)},
	{4, api.ErrTooBig, 62, 1, many("role", 64)},
	{4, api.ErrUser, 1, 1, "join x of r"},
	{4, api.ErrUser, 1, 1, "join x of y"},
	{4, api.ErrUser, 1, 1, "join r of r"},
	{4, api.ErrRole, 1, 1, "join a of x"},
	{4, api.ErrRole, 1, 1, "join a of a"},
	{4, api.ErrTwice, 1, 1, "join a of r"},
	{4, api.ErrRole, 1, 1, "over x, r"},
	{4, api.ErrRole, 1, 1, "over r, x"},
	{4, api.ErrRole, 1, 1, "over a, a"},
	{4, api.ErrTwice, 1, 1, "over r, s"},
	{4, api.ErrCycle, 1, 1, "over s, r"},
	{4, api.ErrCycle, 1, 1, "over q, r"},
	{4, api.ErrCycle, 1, 1, "over q, q"},
	{4, api.ErrRole, 1, 1, "grant x, d"},
	{4, api.ErrRole, 1, 1, "grant a, d"},
	{4, api.ErrTwice, 1, 1, "grant r, d"},
	{4, api.ErrUser, 1, 1, "bar x, d"},
	{4, api.ErrUser, 1, 1, "bar r, d"},
	{4, api.ErrTwice, 1, 1, "bar a, d"},
	{4, api.ErrUser, 1, 1, "lend x, a until 9"},
	{4, api.ErrUser, 1, 1, "lend a, x until 9"},
	{4, api.ErrUser, 1, 1, "lend x, x until 0"},
	{4, api.ErrArg, 1, 1, "lend a, a until 9"},
	{4, api.ErrArg, 1, 1, "lend b, a until 0"},
	{4, api.ErrArg, 1, 1, "lend b, a until 4"},
	{4, api.ErrArg, 1, 1, "lend b, a until 5"},
	{4, api.ErrArg, 1, 1, "lend a, b until 5"},
	{4, api.ErrTwice, 1, 1, "lend a, b until 6"},
	{4, api.ErrTwice, 1, 1, "lend a, b until 9"},
	{4, api.ErrUser, 1, 1, "rest x"},
	{4, api.ErrUser, 1, 1, "rest r"},
	{4, api.ErrTwice, 1, 1, "rest b"},
}

// behind is the fault of lines that stand behind so many others.
func behind(lines int, why api.Errno, line, col int) api.Fault {
	return api.Fault{Why: why, Line: lines + line, Col: col}
}

func TestEachFault(t *testing.T) {
	ahead := strings.Count(company, "\n")
	for _, x := range faulty {
		text := company + x.lines + "\nend\n"
		want := behind(ahead, x.why, x.line, x.col)
		if fault := checkParse(t, text); fault != want {
			t.Errorf("Parse(%.400q): %v, not %v", text, fault, want)
		}
		// Where the NUMBER is 0, only what Scan tells and a line of no form come ahead of it.
		none := strings.Replace(text, "org 5", " org 0", 1)
		if x.point > 3 {
			want = api.Fault{Why: api.ErrArg, Line: 1, Col: 6}
		}
		if fault := checkParse(t, none); fault != want {
			t.Errorf("Parse(%.400q): %v, not %v", none, fault, want)
		}
	}
}

// The fault of the earlier point is told, whichever stands ahead; of one point, the one
// that stands ahead.
func TestTwoFaults(t *testing.T) {
	ahead := strings.Count(company, "\n")
	for _, x := range faulty {
		for _, y := range faulty {
			text := company + x.lines + "\n" + y.lines + "\nend\n"
			want := behind(ahead, x.why, x.line, x.col)
			if y.point < x.point {
				want = behind(ahead+1+strings.Count(x.lines, "\n"), y.why, y.line, y.col)
			}
			if fault := checkParse(t, text); fault != want {
				t.Errorf("Parse(%.400q): %v, not %v", text, fault, want)
			}
		}
	}
}

// A fault behind `end` comes ahead of those of calls.
func TestFaultsBehindTheEnd(t *testing.T) {
	wantFault(t, "org 1\nuser a\nuser a\nend\nend", "malformed 5:1")
	wantFault(t, "org 1\nuser a\nuser a\nend a", "malformed 4:5")
	wantFault(t, "org 0\nuser a\nuser a", "malformed 3:7")
	wantFault(t, "org 1\nuser a\nuser a\nend\nA", "malformed 5:1")
	wantFault(t, "org 0\nend end", "malformed 2:5")
	wantFault(t, "org 0", "malformed 1:6")
	wantFault(t, "\n\torg  0 # now\nend", "bad argument 2:7")
	wantFault(t, "org 0\nuser a\nuser a\nend", "bad argument 1:5")
}

// Lines come in any order, but each call finds what the lines ahead of it have made.
func TestCallsInReadingOrder(t *testing.T) {
	wantFault(t, "org 1\njoin a of r\nuser a\nrole r\nend", "no such user 2:1")
	wantFault(t, "org 1\nuser a\njoin a of r\nrole r\nend", "no such role 3:1")
	wantFault(t, "org 1\nrole r\nover r, s\nrole s\nend", "no such role 3:1")
	wantFault(t, "org 1\ngrant r, d\nrole r\nend", "no such role 2:1")
	wantFault(t, "org 1\nbar a, d\nuser a\nend", "no such user 2:1")
	wantFault(t, "org 1\nuser a\nlend a, b until 2\nuser b\nend", "no such user 3:1")
	wantFault(t, "org 1\nrest a\nuser a\nend", "no such user 2:1")
	wantPrint(t, "org 3\nrole s\ngrant s, z\nuser b\nrest b\nrole r\nbar b, y\nover r, s\ngrant s, d\nuser a\nbar b, x\njoin a of r\nlend b, a until 9\njoin a of s\nlend a, b until 4\ngrant r, d\nrest a\nend",
		"org 3\nuser b\nuser a\nrole s\nrole r\njoin a of s\njoin a of r\nover r, s\ngrant s, d\ngrant s, z\ngrant r, d\nbar b, x\nbar b, y\nlend a, b until 4\nlend b, a until 9\nrest b\nrest a\nend\n")
}

// Each line alone makes the one call that it names.
func TestEachLinesCall(t *testing.T) {
	ahead := "org 5\nuser a\nuser b\nrole r\nrole s\n"
	for line, call := range map[string]func(*org.Org) api.Errno{
		"user c":            func(o *org.Org) api.Errno { _, why := o.User("c"); return why },
		"role c":            func(o *org.Org) api.Errno { _, why := o.Role("c"); return why },
		"user r":            func(o *org.Org) api.Errno { _, why := o.User("r"); return why },
		"role a":            func(o *org.Org) api.Errno { _, why := o.Role("a"); return why },
		"join b of s":       func(o *org.Org) api.Errno { return o.Join("b", "s") },
		"over r, s":         func(o *org.Org) api.Errno { return o.Over("r", "s") },
		"over s, r":         func(o *org.Org) api.Errno { return o.Over("s", "r") },
		"grant s, d":        func(o *org.Org) api.Errno { return o.Grant("s", "d") },
		"bar b, d":          func(o *org.Org) api.Errno { return o.Bar("b", "d") },
		"lend a, b until 6": func(o *org.Org) api.Errno { return o.Lend("a", "b", 6) },
		"lend b, a until 7": func(o *org.Org) api.Errno { return o.Lend("b", "a", 7) },
		"rest b":            func(o *org.Org) api.Errno { return o.Rest("b") },
	} {
		o := must(t, ahead+"end")
		if why := call(o); why != api.OK {
			t.Fatal(line, why)
		}
		if is := must(t, ahead+line+"\nend"); picture(is) != picture(o) || picture(is) == picture(must(t, ahead+"end")) {
			t.Errorf("%s makes\n%s\nnot\n%s", line, picture(is), picture(o))
		}
		checkParse(t, ahead+line+"\nend")
	}
}

// The clock of the answer is the NUMBER of the first line.
func TestTheFirstLinesNumber(t *testing.T) {
	for _, now := range []int{1, 2, 3, 9, 10, 65536, 123456789, 999999998, 999999999} {
		text := fmt.Sprintf("org %d\nend\n", now)
		wantPrint(t, text, text)
		o := must(t, text)
		if o.Now() != now || o.Epoch() != 0 {
			t.Errorf("of %q: Now is %d, Epoch %d", text, o.Now(), o.Epoch())
		}
	}
	wantFault(t, "org 0\nend", "bad argument 1:5")
	o := must(t, "org 999999999\nend")
	if why := o.Tick(1); why != api.ErrClock {
		t.Error("a Tick at the last tick:", why)
	}
}

// The clock has been moved on ahead of the lines' calls: a loan is held against it.
func TestLoansUntil(t *testing.T) {
	for _, now := range []int{1, 2, 9, 999999997, 999999998} {
		for until := max(0, now-2); until <= min(now+2, 999999999); until++ {
			text := fmt.Sprintf("org %d\nuser a\nuser b\nlend a, b until %d\nend\n", now, until)
			if until <= now {
				wantFault(t, text, "bad argument 4:1")
				continue
			}
			wantPrint(t, text, text)
			o := must(t, text)
			o.Tick(until - now)
			if len(o.Loans()) != 0 {
				t.Errorf("a loan at the tick of its until: %v", o.Loans())
			}
		}
	}
	wantFault(t, "org 999999999\nuser a\nuser b\nlend a, b until 999999999\nend", "bad argument 4:1")
	wantFault(t, "org 1\nuser a\nuser b\nlend a, b until 0\nend", "bad argument 4:1")
	wantFault(t, "org 1\nuser a\nuser b\nlend a, b until 1\nend", "bad argument 4:1")
	wantFault(t, "org 1\nuser a\nuser b\nlend a, b until 2\nend", "ok 0:0")
}

func TestSixtyFourNamesAndSixtyFive(t *testing.T) {
	for _, word := range []string{"user", "role"} {
		text := "org 1\n" + many(word, 64) + "\nend\n"
		wantPrint(t, text, text)
		wantFault(t, "org 1\n"+many(word, 65)+"\nend", "too big 66:1")
		wantFault(t, "org 1\n"+many(word, 66)+"\nend", "too big 66:1")
		wantFault(t, "org 1\n"+many(word, 64)+"\n"+word+" v63\nend", "twice 66:1")
		wantFault(t, "org 1\n"+many(word, 64)+"\n  "+word+" x\n"+word+" v0\nend", "too big 66:3")
	}
	both := "org 1\n" + many("user", 64) + "\n" + many("role", 64) + "\nend\n"
	wantPrint(t, both, both)
}

// Texts drawn from lines that are mostly sound.
func TestDrawnTexts(t *testing.T) {
	d := draw(5)
	faults := map[api.Errno]int{}
	for range 4000 {
		text := fmt.Sprintf("org %d\n", d.below(30)*d.below(30))
		for range d.below(14) {
			text += d.line() + "\n"
		}
		faults[checkParse(t, text+"end\n").Why]++
	}
	for _, why := range []api.Errno{api.OK, api.ErrForm, api.ErrTwice, api.ErrUser, api.ErrRole, api.ErrArg} {
		if faults[why] < 50 {
			t.Errorf("only %d texts with %v", faults[why], why)
		}
	}
}

func (d *draw) line() string {
	user, role, duty := d.from(poolUsers()), d.from(poolRoles()), d.from(poolDuties())
	switch d.below(40) {
	case 0:
		return "join " + user + " of " + role
	case 1:
		return "over " + role + ", " + d.from(poolRoles())
	case 2:
		return "grant " + role + ", " + duty
	case 3:
		return "bar " + user + ", " + duty
	case 4:
		return fmt.Sprintf("lend %s, %s until %d", user, d.from(poolUsers()), d.below(900))
	case 5:
		return "rest " + user
	case 6:
		return d.from([]string{"user", "join ann, clerk", "over clerk until", "lend ann, bob till 9"})
	case 7, 8, 9, 10:
		return "role " + role
	case 11, 12, 13, 14:
		return "user " + user
	}
	return "#"
}

// Longer texts, made of lines each of which its organisation takes, and of a last one
// that it may refuse.
func TestDrawnTextsOfLinesThatAreTaken(t *testing.T) {
	d := draw(9)
	faults := map[api.Errno]int{}
	for range 60 {
		lines := []string{"org 400"}
		for range 150 {
			next := append(slices.Clone(lines), d.line())
			if _, fault := roll.Parse(strings.Join(next, "\n") + "\nend"); fault.Why == api.OK {
				lines = next
			} else {
				faults[fault.Why]++
				if fault.Why != api.ErrForm && (fault.Line != len(next) || fault.Col != 1) {
					t.Fatalf("Parse(%q): %v", strings.Join(next, "\n"), fault)
				}
			}
		}
		checkParse(t, strings.Join(lines, "\n")+"\nend")
	}
	for _, why := range []api.Errno{api.ErrForm, api.ErrTwice, api.ErrUser, api.ErrRole, api.ErrArg, api.ErrCycle} {
		if faults[why] < 10 {
			t.Errorf("only %d lines with %v", faults[why], why)
		}
	}
}
