package order_test

import (
	"slices"
	"testing"

	"provost/order"
)

// R2: what is told is the caller's own, its spare room too; what is handed in
// stays as it is, and is not kept.

// spoil writes into a list and into its spare room.
func spoil[T any](l []T, with T) {
	l = l[:cap(l)]
	for i := range l {
		l[i] = with
	}
}

// roomy is a list with spare room that is marked.
func roomy[T any](l []T, mark T) []T {
	room := append(slices.Clone(l), mark, mark, mark)
	return room[:len(l)]
}

// wholeRoom: does the list still stand, and its marks behind it?
func wholeRoom[T comparable](l, want []T, mark T) bool {
	return slices.Equal(l[:len(l)+3], append(slices.Clone(want), mark, mark, mark))
}

// several are orders with lists that are long enough to share something.
func several() []model {
	return append(greater(), chain(12), model{n: 9}, model{n: 4, pairs: [][2]int{{0, 2}, {1, 2}}}, model{})
}

func TestPairsStayAndAreNotKept(t *testing.T) {
	mark := [2]int{77, 78}
	wrong := []model{{n: 2, pairs: [][2]int{{0, 1}, {1, 0}}}, {n: 2, pairs: [][2]int{{0, 1}, {0, 2}}}, {n: 65, pairs: [][2]int{{1, 0}}}}
	for _, m := range append(several(), wrong...) {
		pairs := roomy(m.pairs, mark)
		o, _ := order.New(m.n, pairs)
		if !wholeRoom(pairs, m.pairs, mark) {
			t.Errorf("New changed the pairs of %v: %v", m, pairs)
		}
		if o == nil {
			continue
		}
		spoil(pairs, [2]int{0, 0})
		checkPairs(t, m, o)
	}
}

func TestPrioritiesStayAndAreNotKept(t *testing.T) {
	for _, m := range several() {
		o := made(t, m)
		p := make([]int, m.n)
		for a := range p {
			p[a] = -a * a % 5
		}
		for _, given := range [][]int{p, append(slices.Clone(p), 1)} {
			handed := roomy(given, 77)
			row, _ := o.Least(handed)
			want := slices.Clone(row)
			if !wholeRoom(handed, given, 77) {
				t.Errorf("%v: Least changed the priorities: %v", m, handed)
			}
			spoil(handed, 9)
			if !slices.Equal(row, want) {
				t.Errorf("%v: Least keeps the priorities: %v", m, row)
			}
		}
	}
}

func TestRowsThatAreToldAreTheCallersOwn(t *testing.T) {
	for _, m := range several() {
		o := made(t, m)
		p := make([]int, m.n)
		for range 2 {
			row, _ := o.Least(p)
			if want := m.least(p); !slices.Equal(row, want) {
				t.Errorf("%v: Least: %v, not %v", m, row, want)
			}
			covers := o.Covers()
			again := o.Covers()
			spoil(covers, [2]int{9, 9})
			if !slices.Equal(again, o.Covers()) {
				t.Errorf("%v: Covers, told again: %v", m, again)
			}
			spoil(row, 9)
			checkLevelsApart(t, m, o)
		}
		checkPairs(t, m, o)
	}
}

// checkLevelsApart spoils the levels of an answer one by one: the others stay.
func checkLevelsApart(t *testing.T, m model, o *order.Order) {
	t.Helper()
	want := m.levels()
	got := o.Levels()
	for k := range got {
		if !slices.Equal(got[k], want[k]) {
			t.Errorf("%v: level %d is %v, not %v", m, k, got[k], want[k])
		}
		spoil(got[k], 9)
	}
	spoil(got, nil)
	if again := o.Levels(); !slices.EqualFunc(again, want, slices.Equal) {
		t.Errorf("%v: Levels, told again: %v", m, again)
	}
}

// Two orders know nothing of one another, whatever is asked of them.
func TestOrdersAreApart(t *testing.T) {
	pairs := [][2]int{{0, 1}, {1, 2}}
	a, b := made(t, model{n: 3, pairs: pairs}), made(t, model{n: 3, pairs: pairs[:1]})
	a.Count(9)
	a.Least([]int{1, 2, 3})
	if a.Count(9) != 1 || b.Count(9) != 3 || a.Preds(2) != 3 || b.Preds(2) != 0 {
		t.Error(a.Count(9), b.Count(9), a.Preds(2), b.Preds(2))
	}
}
