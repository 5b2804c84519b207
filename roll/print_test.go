package roll_test

import (
	"fmt"
	"strings"
	"testing"

	"provost/api"
	"provost/org"
	"provost/roll"
)

// P10.3: what Print writes.

// change makes calls of an organisation, each of which must be answered OK: by lines as
// a text has them, and by such as undo what these do.
func change(t *testing.T, o *org.Org, lines ...string) {
	t.Helper()
	for _, line := range lines {
		if why := ask(o, line); why != api.OK {
			t.Fatalf("%s: %v", line, why)
		}
	}
}

func ask(o *org.Org, line string) api.Errno {
	var tokens []api.Token
	for _, word := range strings.Fields(strings.ReplaceAll(line, ",", " ,")) {
		token := api.Token{Text: word}
		fmt.Sscan(word, &token.Number)
		tokens = append(tokens, token)
	}
	switch tokens[0].Text {
	case "nouser":
		return o.NoUser(tokens[1].Text)
	case "norole":
		return o.NoRole(tokens[1].Text)
	case "wake":
		return o.Wake(tokens[1].Text)
	case "back":
		return o.Back(tokens[1].Text, tokens[3].Text)
	case "tick":
		return o.Tick(tokens[1].Number)
	}
	return do(o, tokens)
}

// wantText is for an organisation by hand: what is printed of it.
func wantText(t *testing.T, o *org.Org, want string) {
	t.Helper()
	if text := roll.Print(o); text != want {
		t.Errorf("Print: %q, not %q", text, want)
	}
	checkBack(t, o)
}

func TestPrintOfNobody(t *testing.T) {
	if text := roll.Print(nil); text != "" {
		t.Errorf("of nil: %q", text)
	}
	o := org.New()
	wantText(t, o, "org 1\nend\n")
	change(t, o, "tick 41")
	wantText(t, o, "org 42\nend\n")
	change(t, o, "tick 999999957")
	wantText(t, o, "org 999999999\nend\n")
}

// One that New did not give is no organisation, and does no harm.
func TestPrintOfAZeroValue(t *testing.T) {
	if text := roll.Print(&org.Org{}); text != "org 0\nend\n" {
		t.Errorf("of a zero value: %q", text)
	}
}

// Each sort of line comes in its place, and each line of one sort in its turn: here
// all was made the other way round.
func TestSortsOfLinesInTheirOrder(t *testing.T) {
	o := org.New()
	change(t, o, "role s", "role r", "user b", "user a")
	change(t, o, "rest a", "rest b", "lend b, a until 9", "lend a, b until 7", "bar a, z", "bar a, a", "bar b, y")
	change(t, o, "grant r, z", "grant r, a", "grant s, y", "over r, s", "join a of r", "join a of s", "join b of r")
	wantText(t, o, "org 1\nuser b\nuser a\nrole s\nrole r\njoin b of r\njoin a of s\njoin a of r\nover r, s\ngrant s, y\ngrant r, a\ngrant r, z\nbar b, y\nbar a, a\nbar a, z\nlend a, b until 7\nlend b, a until 9\nrest b\nrest a\nend\n")
}

func TestEachSortOfLineAlone(t *testing.T) {
	for _, line := range []string{"user c", "role c", "join b of s", "over s, r", "grant s, d", "bar a, d", "lend b, a until 2", "rest a"} {
		o := org.New()
		change(t, o, "user a", "user b", "role r", "role s")
		wantText(t, o, "org 1\nuser a\nuser b\nrole r\nrole s\nend\n")
		change(t, o, line)
		want := "org 1\nuser a\nuser b\nrole r\nrole s\n" + line + "\nend\n"
		if line == "user c" {
			want = "org 1\nuser a\nuser b\nuser c\nrole r\nrole s\nend\n"
		}
		wantText(t, o, want)
	}
}

// Users and roles come by their numbers, not by their names or by who came last.
func TestUsersAndRolesByTheirNumbers(t *testing.T) {
	o := org.New()
	change(t, o, "user z", "user m", "user a", "role z", "role m", "role a")
	change(t, o, "join z of a", "join z of z", "over a, m", "over a, z", "over m, z")
	wantText(t, o, "org 1\nuser z\nuser m\nuser a\nrole z\nrole m\nrole a\njoin z of z\njoin z of a\nover m, z\nover a, z\nover a, m\nend\n")
	change(t, o, "nouser z", "norole z")
	wantText(t, o, "org 1\nuser m\nuser a\nrole m\nrole a\nover a, m\nend\n")
	change(t, o, "user b", "role b", "user z", "role z", "join m of b", "join m of z", "over a, b", "over a, z")
	wantText(t, o, "org 1\nuser z\nuser m\nuser a\nuser b\nrole z\nrole m\nrole a\nrole b\njoin m of z\njoin m of b\nover a, z\nover a, m\nover a, b\nend\n")
}

// Duties come rising by their bytes.
func TestDutiesByTheirBytes(t *testing.T) {
	o := org.New()
	change(t, o, "user u", "role r")
	for _, duty := range []string{"b", "a-", "ab", "a", "a0", "b-1", "a-1"} {
		change(t, o, "grant r, "+duty, "bar u, "+duty)
	}
	wantText(t, o, "org 1\nuser u\nrole r\ngrant r, a\ngrant r, a-\ngrant r, a-1\ngrant r, a0\ngrant r, ab\ngrant r, b\ngrant r, b-1\nbar u, a\nbar u, a-\nbar u, a-1\nbar u, a0\nbar u, ab\nbar u, b\nbar u, b-1\nend\n")
}

// Loans come by until, of one until in the order in which they were made.
func TestLoansInTheirOrder(t *testing.T) {
	o := org.New()
	change(t, o, "user a", "user b", "user c", "lend c, a until 9", "lend b, a until 5", "lend a, b until 9", "lend a, c until 5", "lend b, c until 10")
	head := "org 1\nuser a\nuser b\nuser c\n"
	wantText(t, o, head+"lend b, a until 5\nlend a, c until 5\nlend c, a until 9\nlend a, b until 9\nlend b, c until 10\nend\n")
	change(t, o, "back b, a", "lend b, a until 5")
	wantText(t, o, head+"lend a, c until 5\nlend b, a until 5\nlend c, a until 9\nlend a, b until 9\nlend b, c until 10\nend\n")
	change(t, o, "tick 4")
	wantText(t, o, "org 5\nuser a\nuser b\nuser c\nlend c, a until 9\nlend a, b until 9\nlend b, c until 10\nend\n")
	change(t, o, "nouser c")
	wantText(t, o, "org 5\nuser a\nuser b\nlend a, b until 9\nend\n")
}

// What a user has by a loan, or a role by those under it, is not written down for it.
func TestOnlyWhatWasGivenIsWritten(t *testing.T) {
	o := org.New()
	change(t, o, "user a", "user b", "role r", "role s", "role q", "over r, s", "over s, q", "join a of r", "lend a, b until 2", "grant q, d")
	wantText(t, o, "org 1\nuser a\nuser b\nrole r\nrole s\nrole q\njoin a of r\nover r, s\nover s, q\ngrant q, d\nlend a, b until 2\nend\n")
}

// Nothing of whom or what was made unknown is in a text, not even when a name is known again.
func TestPrintOfWhoWasMadeUnknown(t *testing.T) {
	o := must(t, full)
	change(t, o, "nouser bob")
	wantText(t, o, "org 7\nuser ann\nuser cyd\nrole boss\nrole clerk\njoin ann of boss\njoin ann of clerk\nover boss, clerk\ngrant boss, sign\ngrant clerk, ask\nrest cyd\nend\n")
	change(t, o, "user bob", "norole boss")
	wantText(t, o, "org 7\nuser ann\nuser bob\nuser cyd\nrole clerk\njoin ann of clerk\ngrant clerk, ask\nrest cyd\nend\n")
	change(t, o, "role boss", "wake cyd", "nouser ann", "nouser bob", "nouser cyd")
	wantText(t, o, "org 7\nrole boss\nrole clerk\ngrant clerk, ask\nend\n")
	change(t, o, "norole clerk", "norole boss", "tick 3")
	wantText(t, o, "org 10\nend\n")
}
