package plan_test

import (
	"bytes"
	"slices"
	"testing"

	"provost/api"
	"provost/plan"
)

// The chapter's runs and examples.

func TestRunsOfFlaws(t *testing.T) {
	p := open(3, who(u{0, 1}, u{0, 1}, u{2}), r(api.Apart, 0, 0, 1))
	rule := api.Flaw{Kind: api.FlawRule}
	for _, x := range []struct {
		p    api.Problem
		plan []int
		want []api.Flaw
	}{
		{p, u{0, 1, 2}, nil},
		{p, u{0, 0, 2}, []api.Flaw{rule}},
		{p, u{0, 3, 2}, []api.Flaw{{Kind: api.FlawUser, Step: 1}}},
		{p, u{2, 1, 2}, []api.Flaw{{Kind: api.FlawWho}}},
		{p, u{0, 1}, []api.Flaw{{Kind: api.FlawLength}}},
		{p, u{0, 0, 1}, []api.Flaw{{Kind: api.FlawWho, Step: 2}, rule}},
		{fixed(p, 1, -1, -1), u{0, 0, 2}, []api.Flaw{{Kind: api.FlawFixed}, rule}},
	} {
		got, err := plan.Flaws(x.p, x.plan)
		if err != api.OK || !slices.Equal(got, x.want) {
			t.Errorf("%v: Flaws(%v): %v, %v; not %v", x.p, x.plan, got, err, x.want)
		}
		checkFlaws(t, x.p, x.plan)
	}
}

var one = [15]byte{80, 67, 1, 1, 0, 0, 0, 0, 0, 0, 0, 1, 0, 0, 0}

// turned are the bytes of one step and one user, with one byte turned to another.
func turned(place int, to byte) []byte {
	raw := one
	raw[place] = to
	return raw[:]
}

func TestRunsOfWrite(t *testing.T) {
	raw, err := plan.Write(forAll(1, 1), u{0})
	if err != api.OK || !bytes.Equal(raw, one[:]) {
		t.Error("one step:", raw, err)
	}
	raw, err = plan.Write(forAll(1, 1), u{1})
	if err != api.ErrArg || len(raw) != 0 {
		t.Error("a plan with flaws:", raw, err)
	}
	raw, err = plan.Write(forAll(13, 1), make([]int, 13))
	if err != api.ErrTooBig || len(raw) != 0 {
		t.Error("13 steps:", raw, err)
	}
}

func TestRunsOfRead(t *testing.T) {
	p, l, err := plan.Read(one[:])
	if err != api.OK || show(p, l) != show(forAll(1, 1), u{0}) {
		t.Error("one step:", p, l, err)
	}
	checkRead(t, append(one[:], 0), api.ErrForm)
	checkRead(t, turned(11, 3), api.ErrForm)
	checkRead(t, turned(11, 0), api.ErrCorrupt)
	checkRead(t, turned(13, 1), api.ErrCorrupt)
	checkRead(t, nil, api.ErrForm)
	checkRead(t, []byte{}, api.ErrForm)
}

// A certificate of a problem without steps has five bytes.
func TestExampleWithoutSteps(t *testing.T) {
	for users := range 65 {
		p := api.Problem{Users: users}
		raw, err := plan.Write(p, nil)
		if err != api.OK || !bytes.Equal(raw, []byte{80, 67, byte(users), 0, 0}) {
			t.Errorf("%d users: %v, %v", users, raw, err)
		}
		if q, l, err := plan.Read(raw); err != api.OK || show(q, l) != show(p, nil) {
			t.Errorf("%d users: %v, %v, %v", users, q, l, err)
		}
	}
	for users := 65; users < 256; users++ {
		checkRead(t, []byte{80, 67, byte(users), 0, 0}, api.ErrForm)
	}
}

// A user of 255 is no user, however many there are.
func TestExampleOfUser255(t *testing.T) {
	checkRead(t, turned(13, 255), api.ErrCorrupt)
	raw, err := plan.Write(forAll(1, 64), u{63})
	if err != api.OK {
		t.Fatal(err)
	}
	for user := 64; user < 256; user++ {
		raw[13] = byte(user)
		checkRead(t, raw, api.ErrCorrupt)
	}
}
