package org_test

import (
	"testing"

	"provost/api"
	"provost/org"
)

// P9.6

// Each call of P9.1 to P9.4 that is answered OK is one more, and no other one is.
func TestEpochBehindEachCall(t *testing.T) {
	o := org.New()
	if o.Epoch() != 0 {
		t.Error("at first:", o.Epoch())
	}
	var want uint64
	for _, c := range of("User ann; User bob; Role boss; Role clerk; Over boss clerk; Join ann boss; Grant clerk ask; Bar bob ask; Lend ann bob 9; Rest ann; Wake ann; Back ann bob; Unbar bob ask; Revoke clerk ask; Leave ann boss; NoOver boss clerk; NoRole clerk; NoUser bob") {
		change(t, o, c.op+" "+c.a+" "+c.b+" "+"9")
		want++
		if o.Epoch() != want {
			t.Errorf("behind %v: %d, not %d", c, o.Epoch(), want)
		}
	}
}

// Each call with all sorts of names: one more where it is answered OK, and none where it is refused.
func TestEpochWithAllSortsOfNames(t *testing.T) {
	names := []string{"", "A", "ann", "bob", "cyd", "dan", "boss", "clerk", "temp", "a", "ask", "pay"}
	for _, op := range kinds()[:16] {
		answers := map[api.Errno]int{}
		for _, x := range names {
			for _, y := range names {
				o := office(t)
				was := o.Epoch()
				_, err := do(o, call{op, x, y, 8})
				answers[err]++
				if more := o.Epoch() - was; more != 1 && err == api.OK || more != 0 && err != api.OK {
					t.Errorf("%s %q %q: %v, %d more", op, x, y, err, more)
				}
			}
		}
		if answers[api.OK] == 0 || len(answers) < 2 {
			t.Errorf("%s: too few answers: %v", op, answers)
		}
	}
}

// One more with a Tick by which a loan has gone, however many went.
func TestEpochBehindTicks(t *testing.T) {
	for _, x := range []struct {
		loans string
		n     int
		more  uint64
	}{
		{"User cyd", 1, 0}, {"User cyd", 999999998, 0},
		{"Lend ann bob 5", 3, 0}, {"Lend ann bob 5", 4, 1}, {"Lend ann bob 5", 9, 1}, {"Lend ann bob 2", 1, 1},
		{"Lend ann bob 5; Lend bob ann 5", 3, 0}, {"Lend ann bob 5; Lend bob ann 5", 4, 1}, {"Lend ann bob 4; Lend bob ann 5", 4, 1}, {"Lend ann bob 5; Lend bob ann 9", 4, 1},
		{"Lend ann bob 999999999; Lend bob ann 999999999", 999999997, 0}, {"Lend ann bob 999999999; Lend bob ann 999999999", 999999998, 1},
		{"Lend ann bob 5; Back ann bob", 4, 0}, {"Lend ann bob 5; NoUser bob", 4, 0}, {"Lend ann bob 5; NoUser ann", 4, 0},
		{"Lend ann bob 5; Rest ann; Rest bob", 4, 1},
	} {
		o := made(t, "User ann; User bob; "+x.loans)
		was := o.Epoch()
		wantErr(t, "Tick", o.Tick(x.n), api.OK)
		if o.Epoch() != was+x.more {
			t.Errorf("%s, Tick(%d): %d behind %d", x.loans, x.n, o.Epoch(), was)
		}
		wantErr(t, "Tick 0", o.Tick(0), api.ErrArg)
		wantErr(t, "Tick too far", o.Tick(999999999), api.ErrClock)
		if o.Epoch() != was+x.more {
			t.Errorf("behind ticks that were refused: %d behind %d", o.Epoch(), was)
		}
	}
}

// Asking changes nothing.
func TestEpochBehindQuestions(t *testing.T) {
	o := office(t)
	was := o.Epoch()
	first := picture(o)
	if second := picture(o); second != first || o.Epoch() != was {
		t.Errorf("asked twice, it tells\n%s\nand\n%s", first, second)
	}
}
