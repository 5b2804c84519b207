package org_test

import (
	"math"
	"slices"
	"testing"

	"provost/api"
	"provost/org"
)

// P9.4

// pairOf is an organisation at a tick, with ann, who can sign, and bob and cyd, who can not.
func pairOf(t *testing.T, now int) *org.Org {
	t.Helper()
	o := made(t, "User ann; User bob; User cyd; Role boss; Grant boss sign; Join ann boss")
	if now > 1 {
		wantErr(t, "Tick", o.Tick(now-1), api.OK)
	}
	if o.Now() != now {
		t.Fatal("Now:", o.Now())
	}
	return o
}

func TestUntil(t *testing.T) {
	for _, now := range []int{1, 2, 5, 1000, 999999997, 999999998, 999999999} {
		for _, until := range []int{math.MinInt, -now, -1, 0, 1, now - 1, now, now + 1, now + 2, 999999998, 999999999, 1000000000, 1000000001, 1 << 32, math.MaxInt - 1, math.MaxInt} {
			o := pairOf(t, now)
			c := call{"Lend", "ann", "bob", until}
			if until <= now || until > 999999999 {
				refuse(t, o, c, api.ErrArg)
				refuse(t, o, call{"Lend", "ann", "ann", until}, api.ErrArg)
				continue
			}
			wantErr(t, "Lend", second(do(o, c)), api.OK)
			if l := o.Loans(); !slices.Equal(l, []api.Loan{{From: "ann", To: "bob", Until: until}}) {
				t.Error("Loans:", l)
			}
			refuse(t, o, c, api.ErrTwice)
			refuse(t, o, call{"Lend", "ann", "bob", now}, api.ErrArg)
			refuse(t, o, call{"Lend", "ann", "ann", until}, api.ErrArg)
			wantGoneFrom(t, o, until)
		}
	}
}

// wantGoneFrom: ann's loan to bob is there up to the tick ahead of until, and gone from until on.
func wantGoneFrom(t *testing.T, o *org.Org, until int) {
	t.Helper()
	if left := until - 1 - o.Now(); left > 0 {
		wantErr(t, "Tick", o.Tick(left), api.OK)
	}
	epoch := o.Epoch()
	wantCan(t, o, "bob", "sign", true)
	wantErr(t, "Tick", o.Tick(1), api.OK)
	wantCan(t, o, "bob", "sign", false)
	if o.Epoch() != epoch+1 || len(o.Loans()) != 0 || o.Now() != until {
		t.Error("behind the loan: Epoch", o.Epoch(), "from", epoch, "Loans", o.Loans(), "Now", o.Now())
	}
	refuse(t, o, call{op: "Back", a: "ann", b: "bob"}, api.ErrLink)
}

func TestALoanLeadsOneWay(t *testing.T) {
	o := pairOf(t, 1)
	change(t, o, "Lend ann bob 9")
	for _, c := range of("Back bob ann; Back ann cyd; Back cyd bob; Back bob bob") {
		refuse(t, o, c, api.ErrLink)
	}
	change(t, o, "Lend bob ann 5; Lend bob cyd 7; Back ann bob")
	wantCan(t, o, "bob", "sign", false)
	wantCan(t, o, "cyd", "sign", false)
	if l := o.Loans(); !slices.Equal(l, []api.Loan{{From: "bob", To: "ann", Until: 5}, {From: "bob", To: "cyd", Until: 7}}) {
		t.Error("Loans:", l)
	}
}

// A loan that is given back, or gone, can be made anew, with another tick.
func TestALoanAgain(t *testing.T) {
	o, m := pairOf(t, 1), modelOf("User ann; User bob; User cyd; Role boss; Grant boss sign; Join ann boss")
	for _, c := range of("Lend ann bob 9; Back ann bob; Lend ann bob 4; Tick 2; Lend ann bob 9; Tick 1; Back ann bob; Lend ann bob 9; Tick 4; Lend ann bob 9; Tick 1; Lend ann bob 10; Tick 9") {
		follow(t, o, m, c)
	}
}

func modelOf(text string) *model {
	m := &model{}
	for _, c := range of(text) {
		do(m, c)
	}
	return m
}

// P9.7: by until, and those of one until as they were made: also where one was
// given back and made anew, and where others go between.
func TestTheOrderOfLoans(t *testing.T) {
	o, m := org.New(), &model{}
	for _, c := range of("User ann; User bob; User cyd; User dan; Lend dan ann 9; Lend ann bob 9; Lend cyd dan 5; Lend bob ann 7; Lend ann cyd 9; Lend cyd ann 5; Lend ann dan 7; Lend bob cyd 6") {
		follow(t, o, m, c)
	}
	loans := func() (s string) {
		for _, l := range o.Loans() {
			s += l.From + " " + l.To + ", "
		}
		return s
	}
	if got := loans(); got != "cyd dan, cyd ann, bob cyd, bob ann, ann dan, dan ann, ann bob, ann cyd, " {
		t.Error("Loans:", got)
	}
	for _, c := range of("Back dan ann; Lend dan ann 9; Back bob ann; Back cyd dan; Lend cyd dan 9") {
		follow(t, o, m, c)
	}
	if got := loans(); got != "cyd ann, bob cyd, ann dan, ann bob, ann cyd, dan ann, cyd dan, " {
		t.Error("Loans:", got)
	}
	for _, c := range of("Tick 5; NoUser cyd; User cyd; Lend cyd ann 9; Tick 1; Lend bob ann 9") {
		follow(t, o, m, c)
	}
	if got := loans(); got != "ann bob, dan ann, cyd ann, bob ann, " {
		t.Error("Loans:", got)
	}
}

// All loans that 64 users can make, of one tick, are told in the order in which they were made.
func TestAsManyLoansAsThereCanBe(t *testing.T) {
	o, _ := full(t)
	var want []api.Loan
	for k := range 63 {
		for from := range 64 {
			l := api.Loan{From: numbered(from), To: numbered((from + 63 - k) % 64), Until: 9}
			if err := o.Lend(l.From, l.To, 9); err != api.OK {
				t.Fatal(l, err)
			}
			want = append(want, l)
		}
	}
	if !slices.Equal(o.Loans(), want) {
		t.Error("not all loans, or not in their order")
	}
	epoch := o.Epoch()
	wantErr(t, "Tick(7)", o.Tick(7), api.OK)
	if len(o.Loans()) != len(want) || o.Epoch() != epoch {
		t.Error("a tick ahead of their end:", len(o.Loans()), o.Epoch(), epoch)
	}
	wantErr(t, "Tick(1)", o.Tick(1), api.OK)
	if len(o.Loans()) != 0 || o.Epoch() != epoch+1 {
		t.Error("at their end:", len(o.Loans()), o.Epoch(), epoch)
	}
}

// P9.5

func TestTicks(t *testing.T) {
	for _, now := range []int{1, 2, 500, 999999998, 999999999} {
		for _, n := range []int{math.MinInt, math.MinInt + 1, -999999999, -2, -1, 0} {
			refuse(t, pairOf(t, now), call{op: "Tick", n: n}, api.ErrArg)
		}
		left := 999999999 - now
		for _, n := range []int{left + 1, left + 2, 999999999, 1000000000, 1 << 32, math.MaxInt - now, math.MaxInt - now + 1, math.MaxInt} {
			refuse(t, pairOf(t, now), call{op: "Tick", n: n}, api.ErrClock)
		}
		for _, n := range []int{1, 2, left - 1, left} {
			if n < 1 || n > left {
				continue
			}
			o := pairOf(t, now)
			wantErr(t, "Tick", o.Tick(n), api.OK)
			if o.Now() != now+n {
				t.Errorf("Now behind %d and Tick(%d): %d", now, n, o.Now())
			}
		}
	}
}

// A refused Tick takes no loan, though its end lies ahead of where the clock would be.
func TestRefusedTicksTakeNoLoan(t *testing.T) {
	o := pairOf(t, 3)
	change(t, o, "Lend ann bob 4; Lend ann cyd 999999999")
	for _, n := range []int{0, -1, math.MinInt} {
		refuse(t, o, call{op: "Tick", n: n}, api.ErrArg)
	}
	for _, n := range []int{999999997, 999999999, math.MaxInt} {
		refuse(t, o, call{op: "Tick", n: n}, api.ErrClock)
	}
	wantErr(t, "Tick(999999996)", o.Tick(999999996), api.OK)
	if len(o.Loans()) != 0 || o.Now() != 999999999 {
		t.Error("at the end of the clock:", o.Now(), o.Loans())
	}
}

// Each Tick takes the loans whose until is not above the new tick, several at once, and no other one.
func TestTicksTakeLoans(t *testing.T) {
	for n := 1; n <= 10; n++ {
		o, m := org.New(), &model{}
		for _, c := range of("User ann; User bob; User cyd; User dan; Role boss; Grant boss sign; Join ann boss; Lend ann bob 3; Lend ann cyd 3; Lend bob ann 4; Lend dan ann 6; Lend ann dan 6; Lend cyd bob 6; Lend bob cyd 9; Lend cyd ann 11") {
			follow(t, o, m, c)
		}
		for range 12 / n {
			follow(t, o, m, call{op: "Tick", n: n})
		}
	}
}
