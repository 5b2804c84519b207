package org_test

import (
	"slices"
	"testing"

	"provost/api"
	"provost/org"
)

// P9.10

// With no call between, Can is answered alike however often and in whichever order it is asked.
func TestCanHangsOnTheNamesAlone(t *testing.T) {
	o := office(t)
	names := pool()
	var first []bool
	for _, user := range names {
		for _, duty := range names {
			first = append(first, o.Can(user, duty))
		}
	}
	for range 3 {
		for i := len(first) - 1; i >= 0; i-- {
			user, duty := names[i/len(names)], names[i%len(names)]
			if o.Can(user, duty) != first[i] {
				t.Errorf("Can(%s, %s) is not what it was", user, duty)
			}
		}
	}
}

// R3: in rows of calls, what is refused changes no answer.
func TestRefusedCallsChangeNothing(t *testing.T) {
	for _, row := range rows() {
		o := org.New()
		was := picture(o)
		for _, c := range row {
			n, err := do(o, c)
			is := picture(o)
			if err != api.OK && (n != 0 || is != was) {
				t.Fatalf("%v: %d, %v; it was\n%s\nand is\n%s", c, n, err, was, is)
			}
			was = is
		}
	}
}

// R4: two organisations, changed in turns, know nothing of each other.
func TestTwoOrganisations(t *testing.T) {
	all := rows()
	x, mx := org.New(), &model{}
	y, my := org.New(), &model{}
	for i, c := range all[1] {
		follow(t, x, mx, c)
		follow(t, y, my, all[2][i])
		if picture(x) != picture(mx) {
			t.Fatalf("behind %v of another one it is\n%s", all[2][i], picture(x))
		}
	}
}

// R4: the same calls of two organisations are answered alike.
func TestTheSameCallsAreAnsweredAlike(t *testing.T) {
	for _, row := range rows() {
		x, y := org.New(), org.New()
		for _, c := range row {
			n, err := do(x, c)
			if m, other := do(y, c); m != n || other != err {
				t.Fatalf("%v: %d, %v and %d, %v", c, n, err, m, other)
			}
		}
		if picture(x) != picture(y) {
			t.Errorf("two that were made alike tell\n%s\nand\n%s", picture(x), picture(y))
		}
	}
}

// R2

// lists are the rows of names that an organisation tells of its own names.
func lists(o *org.Org) [][]string {
	l := [][]string{o.Users(), o.Roles()}
	for _, name := range pool() {
		l = append(l, o.Held(name), o.Joined(name), o.Juniors(name), o.Duties(name), o.Bars(name))
	}
	return l
}

func spoil[T any](l []T, with T) {
	l = l[:cap(l)]
	for i := range l {
		l[i] = with
	}
}

// Rows that are told are the caller's own, spare room and all: spoilt, they
// change nothing that is told later, and no other row that was told.
func TestRowsThatAreToldAreTheCallersOwn(t *testing.T) {
	for _, row := range rows() {
		o := org.New()
		for i, c := range row {
			do(o, c)
			if i%20 != 0 {
				continue
			}
			was := picture(o)
			kept, keptLoans := lists(o), o.Loans()
			for _, l := range lists(o) {
				spoil(l, "spoilt")
			}
			spoil(o.Loans(), api.Loan{From: "spoilt", To: "spoilt", Until: 77})
			if is := picture(o); is != was {
				t.Fatalf("spoilt lists have changed\n%s\nto\n%s", was, is)
			}
			for j, l := range lists(o) {
				if !slices.Equal(l, kept[j]) {
					t.Fatalf("a row that was told has become %v, from %v", kept[j], l)
				}
			}
			if !slices.Equal(keptLoans, o.Loans()) {
				t.Fatalf("loans that were told have become %v", keptLoans)
			}
		}
	}
}

// Rows that were told stay as they are, whatever changes behind them.
func TestRowsThatWereToldStay(t *testing.T) {
	o := office(t)
	change(t, o, "Join ann clerk; Grant clerk pay; Bar ann ask; Lend bob cyd 9")
	kept, loans := lists(o), o.Loans()
	var copies [][]string
	for _, l := range kept {
		copies = append(copies, slices.Clone(l))
	}
	copied := slices.Clone(loans)
	change(t, o, "Leave ann boss; Revoke clerk ask; Unbar ann ask; Back ann bob; NoOver boss clerk; NoUser bob; NoRole clerk; User eve; Role a; Role clerk; Join ann a; Grant clerk a; Bar ann a; Lend ann cyd 6; Tick 2")
	for i, l := range kept {
		if !slices.Equal(l, copies[i]) {
			t.Errorf("a row that was told has become %v, from %v", l, copies[i])
		}
	}
	if !slices.Equal(loans, copied) {
		t.Errorf("loans that were told have become %v, from %v", loans, copied)
	}
}
