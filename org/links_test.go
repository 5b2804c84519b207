package org_test

import (
	"testing"

	"provost/api"
	"provost/org"
)

// P9.3

// office is an organisation with some of all, and two names that are known no more.
func office(t *testing.T) *org.Org {
	t.Helper()
	o := made(t, "User ann; User bob; User cyd; User dan; NoUser dan; Role clerk; Role boss; Role temp; Role a; NoRole a; Over boss clerk; Over clerk temp")
	change(t, o, "Grant clerk ask; Grant boss sign; Join ann boss; Join bob clerk; Bar ann pay; Bar bob sign; Tick 4; Lend ann bob 9; Lend cyd ann 7; Rest cyd")
	return o
}

// Each error of each call, alone and with what the call names behind it.
func TestErrors(t *testing.T) {
	for _, x := range []struct {
		calls string
		want  api.Errno
	}{
		{"User ann; User bob; User cyd; Role clerk; Role boss; Role temp", api.ErrTwice},
		{"NoUser dan; NoUser eve; NoUser boss; NoUser Ann", api.ErrUser},
		{"NoRole a; NoRole b; NoRole ann; NoRole Boss", api.ErrRole},

		{"Join dan boss; Join eve boss; Join boss boss; Join Ann boss", api.ErrUser},
		{"Join dan a; Join eve b; Join boss ann", api.ErrUser},
		{"Join ann a; Join ann b; Join ann ann; Join ann Boss", api.ErrRole},
		{"Join ann boss; Join bob clerk", api.ErrTwice},
		{"Leave dan boss; Leave eve boss; Leave boss boss", api.ErrUser},
		{"Leave dan a; Leave eve b; Leave boss ann", api.ErrUser},
		{"Leave ann a; Leave ann b; Leave ann ann; Leave ann Boss", api.ErrRole},
		{"Leave ann clerk; Leave ann temp; Leave bob boss; Leave cyd temp", api.ErrLink},

		{"Over a boss; Over boss a; Over b boss; Over boss b; Over ann boss; Over boss ann", api.ErrRole},
		{"Over a a; Over a b; Over b b; Over Boss Boss", api.ErrRole},
		{"Over boss clerk; Over clerk temp", api.ErrTwice},
		{"Over boss boss; Over clerk boss; Over temp boss; Over temp clerk; Over temp temp", api.ErrCycle},
		{"NoOver a boss; NoOver boss a; NoOver b boss; NoOver boss b; NoOver ann boss", api.ErrRole},
		{"NoOver a a; NoOver a b; NoOver Boss Boss", api.ErrRole},
		{"NoOver boss temp; NoOver clerk boss; NoOver boss boss; NoOver temp clerk", api.ErrLink},

		{"Grant a ask; Grant b ask; Grant ann ask", api.ErrRole},
		{"Grant a Ask; Grant b; Grant Boss Ask", api.ErrRole},
		{"Grant clerk Ask; Grant clerk; Grant boss 1; Grant boss -", api.ErrName},
		{"Grant clerk ask; Grant boss sign", api.ErrTwice},
		{"Revoke a ask; Revoke b ask; Revoke ann ask; Revoke a Ask", api.ErrRole},
		{"Revoke clerk sign; Revoke boss ask; Revoke temp ask; Revoke clerk Ask; Revoke clerk", api.ErrLink},

		{"Bar dan ask; Bar eve ask; Bar boss ask", api.ErrUser},
		{"Bar dan Ask; Bar eve; Bar boss 1", api.ErrUser},
		{"Bar ann Ask; Bar ann; Bar cyd 1; Bar cyd -", api.ErrName},
		{"Bar ann pay; Bar bob sign", api.ErrTwice},
		{"Unbar dan pay; Unbar eve pay; Unbar boss pay; Unbar dan Pay", api.ErrUser},
		{"Unbar ann ask; Unbar cyd pay; Unbar bob pay; Unbar ann Pay; Unbar ann", api.ErrLink},

		{"Rest dan; Rest eve; Rest boss; Rest Ann; Rest", api.ErrUser},
		{"Rest cyd", api.ErrTwice},
		{"Wake dan; Wake eve; Wake boss; Wake Ann; Wake", api.ErrUser},
		{"Wake ann; Wake bob", api.ErrLink},

		{"Lend dan bob 9; Lend bob dan 9; Lend eve bob 9; Lend bob eve 9; Lend boss bob 9; Lend bob Ann 9", api.ErrUser},
		{"Lend dan dan 9; Lend dan bob 5; Lend bob eve 1000000000; Lend eve eve 0", api.ErrUser},
		{"Lend bob bob 9; Lend bob ann 5; Lend bob ann 1; Lend bob ann 0; Lend bob ann -9; Lend bob ann 1000000000", api.ErrArg},
		{"Lend bob bob 5; Lend ann ann 1000000000; Lend ann bob 5; Lend ann bob 0; Lend ann bob 1000000000; Lend cyd ann 3", api.ErrArg},
		{"Lend ann bob 9; Lend ann bob 6; Lend ann bob 99; Lend cyd ann 999999999", api.ErrTwice},
		{"Back dan bob; Back bob dan; Back eve bob; Back bob eve; Back dan dan; Back boss bob", api.ErrUser},
		{"Back bob ann; Back ann cyd; Back ann ann; Back bob cyd", api.ErrLink},

		{"Tick 0; Tick -1; Tick -999999999", api.ErrArg},
		{"Tick 999999995; Tick 999999999; Tick 1000000000", api.ErrClock},
	} {
		o := office(t)
		for _, c := range of(x.calls) {
			refuse(t, o, c, x.want)
		}
	}
}

// Names with no words in them are refused in each place of each call.
func TestWrongNamesInCalls(t *testing.T) {
	o := office(t)
	for _, s := range wrongNames() {
		for _, op := range []string{"Join", "Leave", "Bar", "Unbar", "Rest", "Wake", "Lend", "Back", "NoUser"} {
			refuse(t, o, call{op, s, s, 9}, api.ErrUser)
			refuse(t, o, call{op, s, "bob", 9}, api.ErrUser)
		}
		for _, op := range []string{"Over", "NoOver", "Grant", "Revoke", "NoRole"} {
			refuse(t, o, call{op, s, s, 0}, api.ErrRole)
			refuse(t, o, call{op, s, "clerk", 0}, api.ErrRole)
		}
		for _, op := range []string{"Join", "Leave"} {
			refuse(t, o, call{op, "ann", s, 0}, api.ErrRole)
		}
		for _, op := range []string{"Over", "NoOver"} {
			refuse(t, o, call{op, "boss", s, 0}, api.ErrRole)
		}
		for _, op := range []string{"Lend", "Back"} {
			refuse(t, o, call{op, "ann", s, 9}, api.ErrUser)
		}
		refuse(t, o, call{"Grant", "boss", s, 0}, api.ErrName)
		refuse(t, o, call{"Bar", "ann", s, 0}, api.ErrName)
		refuse(t, o, call{"Revoke", "boss", s, 0}, api.ErrLink)
		refuse(t, o, call{"Unbar", "ann", s, 0}, api.ErrLink)
	}
}

// What is done, done again, undone, undone again, and done once more.
func TestDoneAndUndone(t *testing.T) {
	for _, x := range []struct{ done, undone string }{
		{"Join cyd temp", "Leave cyd temp"},
		{"Join ann clerk", "Leave ann clerk"},
		{"Over boss temp", "NoOver boss temp"},
		{"Grant temp pay", "Revoke temp pay"},
		{"Grant boss ask", "Revoke boss ask"},
		{"Bar ann ask", "Unbar ann ask"},
		{"Bar cyd zzz", "Unbar cyd zzz"},
		{"Rest ann", "Wake ann"},
		{"Lend bob cyd 12", "Back bob cyd"},
		{"Lend bob ann 999999999", "Back bob ann"},
	} {
		o := office(t)
		done, undone := of(x.done)[0], of(x.undone)[0]
		refuse(t, o, undone, api.ErrLink)
		for range 2 {
			was := content(o)
			change(t, o, x.done)
			if content(o) == was {
				t.Errorf("%v changes nothing", done)
			}
			refuse(t, o, done, api.ErrTwice)
			change(t, o, x.undone)
			if content(o) != was {
				t.Errorf("%v behind %v: \n%s\nnot\n%s", undone, done, content(o), was)
			}
			refuse(t, o, undone, api.ErrLink)
		}
	}
}

// A name that is known no more has no links to undo, and, known again, none either.
func TestLinksOfNamesThatWent(t *testing.T) {
	o := office(t)
	change(t, o, "NoUser ann; User ann; NoRole clerk; Role clerk; NoUser cyd; User cyd")
	for _, c := range of("Leave ann boss; Leave bob clerk; NoOver boss clerk; NoOver clerk temp; Revoke clerk ask; Unbar ann pay; Back ann bob; Back cyd ann; Wake cyd") {
		refuse(t, o, c, api.ErrLink)
	}
	change(t, o, "Join ann boss; Join bob clerk; Over boss clerk; Over clerk temp; Grant clerk ask; Bar ann pay; Lend ann bob 9; Lend cyd ann 7; Rest cyd")
	if content(o) != content(office(t)) {
		t.Errorf("it has become\n%s\nnot\n%s", content(o), content(office(t)))
	}
}

// Any name is a duty; so many as one likes.
func TestDuties(t *testing.T) {
	o := made(t, "User ann; Role boss; Join ann boss")
	for _, duty := range edgeNames() {
		change(t, o, "Grant boss "+duty+"; Bar ann "+duty)
		wantCan(t, o, "ann", duty, false)
		change(t, o, "Unbar ann "+duty)
		wantCan(t, o, "ann", duty, true)
	}
	for i := range 500 {
		change(t, o, "Grant boss "+numbered(i%64)+"-"+string(rune('a'+i/64)))
	}
	if got := len(o.Duties("boss")); got != 500+len(edgeNames()) {
		t.Error("duties:", got)
	}
}
