package plan_test

import (
	"bytes"
	"slices"
	"testing"

	"provost/api"
	"provost/plan"
	"provost/solve"
)

// P14.1, P14.2: what Check refuses is refused, whatever the plan is.
func TestWrongProblems(t *testing.T) {
	for _, p := range wrong() {
		want := solve.Check(p)
		for _, l := range []u{nil, {0}, {0, 1, 2}, make(u, len(p.Who)), p.Fixed} {
			if got, err := plan.Flaws(p, l); err != want || len(got) > 0 {
				t.Errorf("%v: Flaws(%v): %v, %v; not %v", p, l, got, err, want)
			}
			if raw, err := plan.Write(p, l); err != want || len(raw) > 0 {
				t.Errorf("%v: Write(%v): %v, %v; not %v", p, l, raw, err, want)
			}
		}
	}
}

// P14.2, P14.4
func TestWriteAndRead(t *testing.T) {
	problems, plans := soluble(t)
	for i, p := range problems {
		checkWritten(t, p, plans[i])
	}
}

// checkWritten: are the bytes those of the table, and is what is read what was written?
func checkWritten(t *testing.T, p api.Problem, l []int) {
	t.Helper()
	raw, err := plan.Write(p, l)
	if err != api.OK || !bytes.Equal(raw, bytesOf(p, l)) {
		t.Fatalf("%v: Write(%v): %v, %v; not %v", p, l, raw, err, bytesOf(p, l))
	}
	q, m, err := plan.Read(raw)
	if err != api.OK || show(q, m) != show(p, l) {
		t.Fatalf("%v, %v: read as %v, %v, %v", p, l, q, m, err)
	}
}

func TestWriteAtTheLimits(t *testing.T) {
	big := slices.Repeat([]api.Rule{r(api.Most, 999999999, upTo(12)...)}, 32)
	big[31] = r(api.Many, 12, upTo(12)...)
	checkWritten(t, forAll(12, 64, big...), upTo(12))
	checkWritten(t, fixed(open(64, who(u{}, u{63})), 63, -1), u{63, 63})
	checkWritten(t, fixed(open(64, who(u{}, u{0})), 0, -1), u{0, 0})
	checkWritten(t, open(64, []uint64{0x0123456789abcdef}), u{0})
	checkWritten(t, forAll(3, 3, r(api.Apart, 0, 0, 2), r(api.Same, 0, 0, 1), r(api.Few, 0x01020304, 1), r(api.Many, 1, 2)), u{1, 1, 2})
	checkWritten(t, api.Problem{}, nil)
	raw, _ := plan.Write(forAll(12, 64, big...), upTo(12))
	if want := 4 + 12*10 + 1 + 32*(6+12); len(raw) != want {
		t.Errorf("%d bytes, not %d", len(raw), want)
	}
}

// A plan with flaws of any kind has no certificate.
func TestWriteOfFlaws(t *testing.T) {
	refused := 0
	d := dice(8)
	for _, p := range drawn() {
		var l []int
		for range p.Who {
			l = append(l, d.draw(p.Users+2)-1)
		}
		for _, l := range [][]int{l, append(slices.Clone(l), 0)} {
			raw, err := plan.Write(p, l)
			if solve.Holds(p, l) {
				continue
			}
			refused++
			if err != api.ErrArg || len(raw) > 0 {
				t.Fatalf("%v: Write(%v): %v, %v", p, l, raw, err)
			}
		}
	}
	if refused < 1000 {
		t.Error("plans with flaws:", refused)
	}
	p := open(3, who(u{0, 1}, u{0, 1}, u{2}), r(api.Apart, 0, 0, 1))
	for _, l := range []u{nil, {0, 1}, {0, 1, 2, 0}, {0, 0, 2}, {0, 1, 3}, {0, 1, 1}, {0, 1, -1}, {0, 257, 2}, {0, 1, 258}} {
		if raw, err := plan.Write(p, l); err != api.ErrArg || len(raw) > 0 {
			t.Errorf("Write(%v): %v, %v", l, raw, err)
		}
	}
	if raw, err := plan.Write(fixed(p, 1, -1, -1), u{0, 1, 2}); err != api.ErrArg || len(raw) > 0 {
		t.Errorf("a step of another one: %v, %v", raw, err)
	}
}
