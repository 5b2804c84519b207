package tally_test

import (
	"math"
	"testing"

	"provost/api"
	"provost/tally"
)

// P13.1

func TestPlansUpToMost(t *testing.T) {
	for _, p := range drawn() {
		all := model(p).count
		for _, most := range []uint64{0, 1, 2, 3, max(all, 1) - 1, all, all + 1, 65535, 65536, 65537, math.MaxUint64} {
			if got := tally.Plans(p, most); got != min(all, most) {
				t.Fatalf("%v: Plans up to %d: %d, of %d", p, most, got, all)
			}
		}
	}
}

// Counts go up to 65536: ahead of that, at it, and past it.
func TestPlansAtTheGreatestCount(t *testing.T) {
	eight := steps(0, 8)
	for _, x := range []struct {
		name string
		p    api.Problem
		all  uint64
	}{
		{"4^8 less 4", forAll(8, 4, r(api.Many, 2, eight...)), 65532},
		{"4^8", forAll(8, 4), 65536},
		{"4^8, and three steps that are fixed", fixed(forAll(11, 4), -1, -1, -1, -1, -1, -1, -1, -1, 0, 1, 2), 65536},
		{"4^8 * 2", open(4, append(forAll(8, 4).Who, word(0, 1))), 65536},
		{"5^7", forAll(7, 5), 65536},
		{"64^12", forAll(12, 64), 65536},
		{"64 of 12 apart", forAll(12, 64, r(api.Apart, 0, steps(0, 12)...)), 65536},
		{"12!", forAll(12, 12, r(api.Apart, 0, steps(0, 12)...)), 65536},
		{"8!", forAll(8, 8, r(api.Apart, 0, eight...)), 40320},
		{"64^2", forAll(2, 64), 4096},
	} {
		for _, most := range []uint64{0, 1, 40319, 65531, 65532, 65535, 65536, 65537, 1 << 32, math.MaxUint64} {
			if got := tally.Plans(x.p, most); got != min(x.all, most) {
				t.Errorf("%s: Plans up to %d: %d", x.name, most, got)
			}
		}
	}
}

// Problems that have few plans, far back in the order, or none.
func TestPlansThatComeLate(t *testing.T) {
	tied := forAll(12, 64)
	for step := range 11 {
		tied.Rules = append(tied.Rules, r(api.Same, 0, step, 11))
	}
	falling := forAll(12, 12)
	for step := range falling.Who {
		falling.Who[step] = 1 << (11 - step)
	}
	none := forAll(12, 64, r(api.Few, 1, 10, 11), r(api.Many, 2, 10, 11))
	for _, x := range []struct {
		name string
		p    api.Problem
		want uint64
	}{{"all as the last one", tied, 64}, {"each its own", falling, 1}, {"none", none, 0}} {
		if got := tally.Plans(x.p, 65536); got != x.want {
			t.Errorf("%s: %d plans, not %d", x.name, got, x.want)
		}
	}
}
