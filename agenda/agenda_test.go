package agenda_test

import (
	"math"
	"slices"
	"testing"

	"provost/agenda"
)

// The chapter's runs, in their order, on one agenda.
func TestRuns(t *testing.T) {
	a := agenda.New()
	a.Set(3, 9)
	a.Set(5, 4)
	a.Set(7, 4)
	wantFirst(t, a, 5, 4, true)
	if got := told(a); !slices.Equal(got, []pair{{5, 4}, {7, 4}, {3, 9}}) {
		t.Error("All:", got)
	}
	a.Set(5, 4)
	wantFirst(t, a, 7, 4, true)
	wantDue(t, a, 4, 1, 7)
	wantDue(t, a, 8, 9, 5)
	if a.Len() != 1 {
		t.Error("Len:", a.Len())
	}
	wantDue(t, a, 9, 0)
	wantDue(t, a, 9, -1)
	wantDue(t, a, 8, 9)
	wantDrop(t, a, 3, true)
	wantDrop(t, a, 3, false)
	wantAt(t, a, 3, 0, false)
	wantFirst(t, a, 0, 0, false)
	a.Set(1, -5)
	a.Set(2, -5)
	a.Set(1, 3)
	wantDue(t, a, 0, 9, 2)
	wantAt(t, a, 1, 3, true)
}

// The chapter's first example.
func TestAnEntryBelowZero(t *testing.T) {
	a := agenda.New()
	a.Set(-1, -9)
	wantFirst(t, a, -1, -9, true)
	wantAt(t, a, -1, -9, true)
	wantDue(t, a, -10, 9)
	wantDue(t, a, -9, 9, -1)
	wantFirst(t, a, 0, 0, false)
}

// P4.1

func TestSetAgain(t *testing.T) {
	entries := []pair{{1, 4}, {2, 4}, {3, 6}, {4, 4}, {5, 2}, {6, 6}}
	for _, e := range entries {
		for _, at := range []int{e.at, e.at - 1, e.at + 1, 2, 4, 6, math.MinInt, math.MaxInt} {
			a, m := of(entries...)
			for range 2 {
				a.Set(e.id, at)
				m.set(e.id, at)
				check(t, a, m)
			}
			a.Set(e.id, e.at)
			m.set(e.id, e.at)
			check(t, a, m)
		}
	}
}

// Setting each again at its own time turns those of one time round about.
func TestSetAgainAtTheSameTimeComesLast(t *testing.T) {
	a, _ := of(pair{1, 4}, pair{2, 4}, pair{3, 4})
	a.Set(1, 4)
	a.Set(2, 4)
	if got := told(a); !slices.Equal(got, []pair{{3, 4}, {1, 4}, {2, 4}}) {
		t.Error(got)
	}
	a.Set(3, 5)
	a.Set(3, 4)
	if got := told(a); !slices.Equal(got, []pair{{1, 4}, {2, 4}, {3, 4}}) {
		t.Error(got)
	}
}

// An entry that has gone and comes again was set last of all.
func TestSetBehindDropAndDue(t *testing.T) {
	a, m := of(pair{1, 4}, pair{2, 4}, pair{3, 4})
	do(t, a, m, call{toDrop, 1, 0})
	do(t, a, m, call{toSet, 1, 4})
	check(t, a, m)
	do(t, a, m, call{toDue, 4, 1})
	do(t, a, m, call{toSet, 2, 4})
	check(t, a, m)
	do(t, a, m, call{toDue, 4, 9})
	do(t, a, m, call{toSet, 2, 4})
	do(t, a, m, call{toSet, 1, 4})
	check(t, a, m)
}

func TestIdsAndTimesAtTheExtremes(t *testing.T) {
	ends := []int{math.MaxInt, 1, 0, -1, math.MinInt, math.MinInt + 1, math.MaxInt - 1}
	a, m := agenda.New(), &model{}
	for i, id := range ends {
		for k := range ends {
			do(t, a, m, call{toSet, id, ends[(i+k)%len(ends)]})
			check(t, a, m)
		}
	}
	for _, now := range []int{math.MinInt, math.MinInt + 1, -1, 0, math.MaxInt - 1, math.MaxInt} {
		do(t, a, m, call{toDue, now, math.MaxInt})
		check(t, a, m)
	}
}

func TestDrop(t *testing.T) {
	empty := agenda.New()
	for _, id := range ids() {
		wantDrop(t, empty, id, false)
	}
	check(t, empty, &model{})
	entries := []pair{{8, 3}, {1, 5}, {-2, 3}, {6, 0}, {0, 5}, {4, 4}, {9, 9}, {7, -1}}
	for _, e := range entries { // the first and the last one among them
		a, m := of(entries...)
		wantDrop(t, a, 5, false)
		check(t, a, m)
		wantDrop(t, a, e.id, true)
		m.drop(e.id)
		check(t, a, m)
		wantDrop(t, a, e.id, false)
		check(t, a, m)
	}
}

func TestDropDownToNothing(t *testing.T) {
	for from := range 8 {
		a, m := agenda.New(), &model{}
		for i := range 64 {
			do(t, a, m, call{toSet, i, i * 37 % 16})
		}
		for i := range 64 {
			do(t, a, m, call{toDrop, (i*29 + from*8) % 64, 0})
			check(t, a, m)
		}
		wantFirst(t, a, 0, 0, false)
	}
}

// P4.2

func TestOfNothing(t *testing.T) {
	a := agenda.New()
	for range 2 {
		check(t, a, &model{})
		wantDue(t, a, math.MaxInt, math.MaxInt)
		a.Set(3, 4)
		wantDrop(t, a, 3, true)
	}
}

// An entry of id 0 at time 0 is not the same as none.
func TestZeroIsAnEntry(t *testing.T) {
	a, m := of(pair{0, 0})
	check(t, a, m)
	wantFirst(t, a, 0, 0, true)
	wantAt(t, a, 0, 0, true)
	wantDue(t, a, 0, 1, 0)
	check(t, a, &model{})
}

func TestRowsOfCalls(t *testing.T) {
	for _, row := range rows() {
		a, m := agenda.New(), &model{}
		check(t, a, m)
		for _, c := range row {
			do(t, a, m, c)
			check(t, a, m)
		}
	}
}

// P4.5

func TestFirstByFirst(t *testing.T) {
	for _, row := range rows() {
		for length := 0; length <= len(row); length += 23 {
			a, m := after(t, row[:length])
			want := told(a)
			if !slices.Equal(want, m.all()) {
				t.Fatalf("All: %v, not %v", want, m.all())
			}
			for _, e := range want {
				wantFirst(t, a, e.id, e.at, true)
				wantDrop(t, a, e.id, true)
			}
			check(t, a, &model{})
		}
	}
}

// The chapter's second example: two agendas in turns, and one that is made while
// the others stand.
func TestAgendasAreApart(t *testing.T) {
	a, m := agenda.New(), &model{}
	b, n := agenda.New(), &model{}
	others := rows()[2]
	for i, c := range rows()[1] {
		do(t, a, m, c)
		do(t, b, n, others[i])
		check(t, a, m)
		check(t, b, n)
	}
	check(t, agenda.New(), &model{})
}

// Which of one time comes first hangs on the agenda's own calls alone.
func TestTurnsAreTheAgendasOwn(t *testing.T) {
	a, b := agenda.New(), agenda.New()
	a.Set(2, 5)
	b.Set(1, 5)
	b.Set(3, 5)
	a.Set(1, 5)
	b.Set(2, 5)
	if got := told(a); !slices.Equal(got, []pair{{2, 5}, {1, 5}}) {
		t.Error(got)
	}
	if got := told(b); !slices.Equal(got, []pair{{1, 5}, {3, 5}, {2, 5}}) {
		t.Error(got)
	}
}

// Many calls end soon: an entry is looked up, not looked for.
func TestManyEntries(t *testing.T) {
	const n = 200000
	a := agenda.New()
	for i := range n {
		a.Set(i, -i)
	}
	for i := range n {
		a.Set(i, i*7919%n)
	}
	for i := 0; i < n; i += 2 {
		wantDrop(t, a, i, true)
	}
	if a.Len() != n/2 {
		t.Fatal("Len:", a.Len())
	}
	got := a.Due(n, n)
	if len(got) != n/2 || !slices.IsSortedFunc(got, func(x, y int) int { return x*7919%n - y*7919%n }) {
		t.Error("Due told", len(got))
	}
	check(t, a, &model{})
}
