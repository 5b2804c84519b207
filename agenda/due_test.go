package agenda_test

import (
	"math"
	"slices"
	"testing"

	"provost/agenda"
)

// P4.3

// several are entries with times below, at and above each other, some of one time.
func several() []pair {
	return []pair{{4, 2}, {1, 0}, {9, 2}, {-3, 7}, {5, -4}, {2, 2}, {6, 0}, {7, 7}, {0, 1}, {8, math.MaxInt}, {3, math.MinInt}}
}

func TestDue(t *testing.T) {
	mosts := []int{math.MinInt, -1, 0, 12, 1 << 40, math.MaxInt}
	for most := 1; most < 12; most++ { // below, at and above how many are due
		mosts = append(mosts, most)
	}
	for _, now := range []int{math.MinInt, math.MinInt + 1, -5, -4, -1, 0, 1, 2, 3, 7, 8, math.MaxInt - 1, math.MaxInt} {
		for _, most := range mosts {
			a, m := of(several()...)
			for range 3 {
				do(t, a, m, call{toDue, now, most})
				check(t, a, m)
			}
		}
	}
}

// A number below 1 takes none out, whatever is due.
func TestDueOfNone(t *testing.T) {
	a, m := of(several()...)
	for _, most := range []int{0, -1, -2, -11, math.MinInt} {
		for _, now := range times() {
			wantDue(t, a, now, most)
			check(t, a, m)
		}
	}
}

func TestDueBoundsByHand(t *testing.T) {
	entries := []pair{{10, 3}, {20, 1}, {30, 2}, {40, 1}}
	for _, x := range []struct {
		now, most int
		want      []int
	}{
		{0, 9, nil}, {1, 9, []int{20, 40}}, {1, 1, []int{20}}, {1, 2, []int{20, 40}}, {1, 3, []int{20, 40}},
		{2, 2, []int{20, 40}}, {2, 3, []int{20, 40, 30}}, {3, 4, []int{20, 40, 30, 10}}, {9, 5, []int{20, 40, 30, 10}},
		{math.MaxInt, math.MaxInt, []int{20, 40, 30, 10}}, {math.MinInt, math.MaxInt, nil}, {math.MaxInt, math.MinInt, nil},
	} {
		a, m := of(entries...)
		wantDue(t, a, x.now, x.most, x.want...)
		for _, id := range x.want {
			m.drop(id)
			wantAt(t, a, id, 0, false)
			wantDrop(t, a, id, false)
		}
		check(t, a, m)
	}
}

// Of one time, those that were set first come first, however many there are.
func TestDueOfOneTime(t *testing.T) {
	for _, at := range []int{math.MinInt, -1, 0, 5, math.MaxInt} {
		a := agenda.New()
		var want []int
		for i := range 500 {
			id := i * 213 % 500
			a.Set(id, at)
			want = append(want, id)
		}
		for _, id := range []int{want[0], want[250], want[499]} { // set again: each comes last
			a.Set(id, at)
			want = append(slices.DeleteFunc(want, func(x int) bool { return x == id }), id)
		}
		if at > math.MinInt {
			wantDue(t, a, at-1, 500)
		}
		wantDue(t, a, at, 1, want[0])
		wantDue(t, a, at, 300, want[1:301]...)
		wantDue(t, a, math.MaxInt, 500, want[301:]...)
		check(t, a, &model{})
	}
}

// R2: what is told is the caller's own, its spare room too.

// spoil writes into a list and into its spare room.
func spoil(l []int) {
	l = l[:cap(l)]
	for i := range l {
		l[i] = 77
	}
}

func TestRowsThatAreToldAreTheCallersOwn(t *testing.T) {
	for _, row := range rows() {
		a, m := agenda.New(), &model{}
		var kept, copies [][]int
		for i, c := range row {
			if c.kind != toDue {
				do(t, a, m, c)
				continue
			}
			got, want := a.Due(c.x, c.y), m.due(c.x, c.y)
			if !slices.Equal(got, want) {
				t.Fatalf("Due(%d, %d): %v, not %v", c.x, c.y, got, want)
			}
			if i%2 == 0 {
				spoil(got)
				check(t, a, m)
			} else {
				kept, copies = append(kept, got), append(copies, slices.Clone(got))
			}
		}
		for i, l := range kept {
			if !slices.Equal(l, copies[i]) {
				t.Errorf("a row that was told has become %v, from %v", l, copies[i])
			}
		}
	}
}

// Two answers share nothing: one is spoilt, the other one stays.
func TestTwoAnswersShareNothing(t *testing.T) {
	a, _ := of(pair{1, 1}, pair{2, 2}, pair{3, 3}, pair{4, 4}, pair{5, 5})
	x, y := a.Due(9, 2), a.Due(9, 2)
	spoil(x)
	if !slices.Equal(y, []int{3, 4}) {
		t.Error("the second answer:", y)
	}
	spoil(y)
	wantDue(t, a, 9, 9, 5)
}
