package agenda_test

import (
	"cmp"
	"math"
	"slices"
	"testing"

	"provost/agenda"
)

// pair is an entry as it is told: an id and a time.
type pair struct {
	id, at int
}

// model is an agenda as the chapter's words say it: a plain list of entries, the
// one that was set last at the end.
type model struct {
	list []pair
}

func (m *model) set(id, at int) {
	m.drop(id)
	m.list = append(m.list, pair{id, at})
}

func (m *model) drop(id int) bool {
	was := len(m.list)
	m.list = slices.DeleteFunc(m.list, func(e pair) bool { return e.id == id })
	return len(m.list) < was
}

// all are the entries in order: a stable sort leaves those of one time as they were set.
func (m *model) all() []pair {
	l := slices.Clone(m.list)
	slices.SortStableFunc(l, func(x, y pair) int { return cmp.Compare(x.at, y.at) })
	return l
}

func (m *model) due(now, most int) []int {
	var ids []int
	for _, e := range m.all() {
		if e.at <= now && len(ids) < most {
			ids = append(ids, e.id)
			m.drop(e.id)
		}
	}
	return ids
}

// told is what a range tells.
func told(a *agenda.Agenda) []pair {
	var l []pair
	for id, at := range a.All() {
		l = append(l, pair{id, at})
	}
	return l
}

// check holds all that an agenda tells of itself against the model.
func check(t *testing.T, a *agenda.Agenda, m *model) {
	t.Helper()
	want := m.all()
	if got := told(a); !slices.Equal(got, want) {
		t.Fatalf("All: %v, not %v", got, want)
	}
	if a.Len() != len(want) {
		t.Fatalf("Len: %d of %v", a.Len(), want)
	}
	var first pair
	if len(want) > 0 {
		first = want[0]
	}
	if id, at, ok := a.First(); (pair{id, at}) != first || ok != (len(want) > 0) {
		t.Fatalf("First: %d, %d, %v of %v", id, at, ok, want)
	}
	for _, e := range want {
		wantAt(t, a, e.id, e.at, true)
	}
	for _, id := range ids() {
		if !slices.ContainsFunc(want, func(e pair) bool { return e.id == id }) {
			wantAt(t, a, id, 0, false)
		}
	}
}

func wantAt(t *testing.T, a *agenda.Agenda, id, at int, ok bool) {
	t.Helper()
	if got, is := a.At(id); got != at || is != ok {
		t.Fatalf("At(%d): %d, %v, not %d, %v", id, got, is, at, ok)
	}
}

func wantDue(t *testing.T, a *agenda.Agenda, now, most int, want ...int) {
	t.Helper()
	if got := a.Due(now, most); !slices.Equal(got, want) {
		t.Fatalf("Due(%d, %d): %v, not %v", now, most, got, want)
	}
}

func wantFirst(t *testing.T, a *agenda.Agenda, id, at int, ok bool) {
	t.Helper()
	if i, k, is := a.First(); i != id || k != at || is != ok {
		t.Fatalf("First: %d, %d, %v, not %d, %d, %v", i, k, is, id, at, ok)
	}
}

// ids and times are those that rows of calls take, the extremes among them.
func ids() []int {
	l := []int{math.MinInt, math.MinInt + 1, math.MaxInt - 1, math.MaxInt}
	for id := -6; id < 30; id++ {
		l = append(l, id)
	}
	return l
}

func times() []int { return []int{math.MinInt, -7, -1, 0, 0, 1, 2, 2, 3, 9, math.MaxInt} }

// The kinds of calls of a row.
const (
	toSet = iota
	toDrop
	toDue
)

// call is one call of a row, with its two numbers.
type call struct {
	kind, x, y int
}

// draw makes numbers by a short rule.
type draw uint64

func (d *draw) below(n int) int {
	*d = *d*6364136223846793005 + 1442695040888963407
	return int(*d >> 33 % draw(n))
}

func (d *draw) of(l []int) int { return l[d.below(len(l))] }

// rowOfCalls is a long row; of a hundred calls, so many set, and so many are Due.
func rowOfCalls(seed, length, sets, dues int) []call {
	d := draw(seed)
	var l []call
	for range length {
		switch k := d.below(100); {
		case k < sets:
			l = append(l, call{toSet, d.of(ids()), d.of(times())})
		case k < sets+dues:
			l = append(l, call{toDue, d.of(times()), d.below(8) - 1})
		default:
			l = append(l, call{toDrop, d.of(ids()), 0})
		}
	}
	return l
}

// do makes a call of both, and holds the answers against each other.
func do(t *testing.T, a *agenda.Agenda, m *model, c call) {
	t.Helper()
	switch c.kind {
	case toSet:
		a.Set(c.x, c.y)
		m.set(c.x, c.y)
	case toDrop:
		wantDrop(t, a, c.x, m.drop(c.x))
	case toDue:
		wantDue(t, a, c.x, c.y, m.due(c.x, c.y)...)
	}
}

func wantDrop(t *testing.T, a *agenda.Agenda, id int, want bool) {
	t.Helper()
	if got := a.Drop(id); got != want {
		t.Fatalf("Drop(%d): %v", id, got)
	}
}

// rows are rows of calls that fill an agenda, that keep it small, and between.
func rows() [][]call {
	return [][]call{
		rowOfCalls(1, 600, 90, 1), rowOfCalls(2, 600, 60, 10), rowOfCalls(3, 600, 40, 10), rowOfCalls(4, 600, 50, 40), rowOfCalls(5, 600, 70, 0),
	}
}

// after is what a row of calls leaves, with the model beside it.
func after(t *testing.T, row []call) (*agenda.Agenda, *model) {
	t.Helper()
	a, m := agenda.New(), &model{}
	for _, c := range row {
		do(t, a, m, c)
	}
	return a, m
}

// of is an agenda whose entries were set in this order.
func of(entries ...pair) (*agenda.Agenda, *model) {
	a, m := agenda.New(), &model{}
	for _, e := range entries {
		a.Set(e.id, e.at)
		m.set(e.id, e.at)
	}
	return a, m
}
