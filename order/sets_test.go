package order_test

import (
	"slices"
	"testing"

	"provost/order"
)

// beyond are words of bits that are no places of an order of n places.
func beyond(n int) []uint64 {
	none := ^uint64(0) << n
	return []uint64{0, 1 << n, 1 << 63, none, none &^ (1 << n), 1<<40 | 1<<50}
}

// ready is what may come behind done, by the chapter's words.
func (m model) ready(done uint64) uint64 {
	var w uint64
	for a := range m.n {
		if done>>a&1 == 0 && m.preds(a)&^done == 0 {
			w |= 1 << a
		}
	}
	return w
}

// down: is s, a set of places, Down?
func (m model) down(s uint64) bool {
	for a := range m.n {
		if s>>a&1 == 1 && m.preds(a)&^s != 0 {
			return false
		}
	}
	return true
}

// downs are the sets that are Down, rising.
func (m model) downs() []uint64 {
	var l []uint64
	for s := range uint64(1) << m.n {
		if m.down(s) {
			l = append(l, s)
		}
	}
	return l
}

// longest is how many places the longest row has that ends with a.
func (m model) longest(a int) int {
	most := 0
	for b := range m.n {
		if m.before(b, a) {
			most = max(most, m.longest(b))
		}
	}
	return most + 1
}

// levels are the places by the longest row that ends with them.
func (m model) levels() [][]int {
	var l [][]int
	for k := range m.n {
		var level []int
		for a := range m.n {
			if m.longest(a) == k+1 {
				level = append(level, a)
			}
		}
		if len(level) > 0 {
			l = append(l, level)
		}
	}
	return l
}

// P3.4

func TestReadyAndDown(t *testing.T) {
	for _, m := range append(orders(), greater()...) {
		o := made(t, m)
		for s := range uint64(1) << m.n {
			for _, w := range beyond(m.n) {
				if got, want := o.Ready(s|w), m.ready(s); got != want {
					t.Errorf("%v: Ready(%b): %b, not %b", m, s|w, got, want)
				}
				if got, want := o.Down(s|w), w == 0 && m.down(s); got != want {
					t.Errorf("%v: Down(%b): %v", m, s|w, got)
				}
			}
		}
	}
}

func TestReadyAndDownOfSixtyFourPlaces(t *testing.T) {
	o := made(t, chain(64))
	for a := range 64 {
		begun := uint64(1)<<a - 1
		if o.Ready(begun) != 1<<a || !o.Down(begun) || a > 0 && o.Down(1<<a) {
			t.Errorf("a chain behind %x: %x, %v", begun, o.Ready(begun), o.Down(begun))
		}
	}
	if o.Ready(^uint64(0)) != 0 || !o.Down(^uint64(0)) || o.Down(^uint64(0)-1) {
		t.Error("all of a chain:", o.Ready(^uint64(0)), o.Down(^uint64(0)))
	}
	o = made(t, model{n: 64})
	if o.Ready(1<<63) != 1<<63-1 || !o.Down(1<<63) || !o.Down(^uint64(0)) {
		t.Errorf("no pairs: %x", o.Ready(1<<63))
	}
	o = made(t, model{n: 63})
	if o.Ready(0) != 1<<63-1 || o.Down(1<<63) || !o.Down(1<<63-1) {
		t.Errorf("63 places: %x", o.Ready(0))
	}
}

// The chapter's first example.
func TestNothingIsDown(t *testing.T) {
	for _, m := range append(orders(), chain(64), model{n: 64}) {
		if !made(t, m).Down(0) {
			t.Errorf("%v: Down(0)", m)
		}
	}
}

// P3.5

func TestLevels(t *testing.T) {
	for _, m := range append(orders(), greater()...) {
		if got, want := made(t, m).Levels(), m.levels(); !slices.EqualFunc(got, want, slices.Equal) {
			t.Errorf("%v: Levels %v, not %v", m, got, want)
		}
	}
}

func TestLevelsOfSixtyFourPlaces(t *testing.T) {
	l := made(t, chain(64)).Levels()
	for k, level := range l {
		if !slices.Equal(level, []int{k}) {
			t.Errorf("a chain: level %d is %v", k, level)
		}
	}
	if len(l) != 64 {
		t.Error("a chain:", len(l), "levels")
	}
	l = made(t, model{n: 64}).Levels()
	if len(l) != 1 || len(l[0]) != 64 || !slices.IsSorted(l[0]) || l[0][0] != 0 || l[0][63] != 63 {
		t.Error("no pairs:", l)
	}
}

// P3.7

func TestDowns(t *testing.T) {
	for _, m := range append(orders(), greater()...) {
		downs, want := made(t, m).Downs(), m.downs()
		for range 2 {
			if got := slices.Collect(downs); !slices.Equal(got, want) {
				t.Errorf("%v: Downs %b, not %b", m, got, want)
			}
		}
		for most := range len(want) + 2 {
			if got := some(downs, most); !slices.Equal(got, want[:min(most, len(want))]) {
				t.Errorf("%v: Downs, ended behind %d: %b", m, most, got)
			}
		}
	}
}

// some ranges until it has that many, and ends the range.
func some(downs func(func(uint64) bool), most int) []uint64 {
	var l []uint64
	if most == 0 {
		return l
	}
	for s := range downs {
		l = append(l, s)
		if len(l) == most {
			break
		}
	}
	return l
}

func TestDownsInOneAnother(t *testing.T) {
	m := model{n: 4, pairs: [][2]int{{0, 2}, {1, 2}}}
	downs, want := made(t, m).Downs(), m.downs()
	var outer []uint64
	for s := range downs {
		outer = append(outer, s)
		if got := slices.Collect(downs); !slices.Equal(got, want) {
			t.Errorf("Downs inside of Downs at %b: %b", s, got)
		}
	}
	if !slices.Equal(outer, want) {
		t.Errorf("Downs around Downs: %b", outer)
	}
}

func TestDownsOfSixtyFourPlaces(t *testing.T) {
	free := made(t, model{n: 64})
	for i, s := range some(free.Downs(), 1000) {
		if s != uint64(i) {
			t.Errorf("no pairs: %x at %d", s, i)
		}
	}
	turned := chain(64)
	slices.Reverse(turned.pairs)
	for i := range turned.pairs {
		slices.Reverse(turned.pairs[i][:])
	}
	for _, m := range []model{chain(64), turned} {
		l := slices.Collect(made(t, m).Downs())
		if len(l) != 65 || !slices.IsSorted(l) || l[0] != 0 || l[64] != ^uint64(0) {
			t.Errorf("a chain: %x", l)
		}
	}
	if l := slices.Collect(made(t, turned).Downs()); l[1] != 1<<63 {
		t.Errorf("a chain from the top: %x", l[1])
	}
	checkFar(t)
}

// checkFar: one place that comes behind all others, or ahead of them, makes
// words far apart; to come from one to the next must not take a walk.
func checkFar(t *testing.T) {
	first := model{n: 64}
	for a := range 63 {
		first.pairs = append(first.pairs, [2]int{63, a})
	}
	want := []uint64{0, 1 << 63, 1<<63 | 1, 1<<63 | 2, 1<<63 | 3}
	if got := some(made(t, first).Downs(), 5); !slices.Equal(got, want) {
		t.Errorf("63 ahead of all: %x", got)
	}
	split := model{n: 64}
	for a := range 31 {
		split.pairs = append(split.pairs, [2]int{a, a + 1}, [2]int{a + 33, a + 32})
	}
	if got := slices.Collect(made(t, split).Downs()); len(got) != 33*33 || !slices.IsSorted(got) || got[33] != 1<<63 {
		t.Errorf("two chains: %d sets", len(got))
	}
}

// The chapter's runs of an order of four places, and of none.
func TestSetsRuns(t *testing.T) {
	o := made(t, model{n: 4, pairs: [][2]int{{0, 2}, {1, 2}}})
	for _, x := range [][2]uint64{{0, 11}, {1, 10}, {3, 12}, {7, 8}, {1 << 63, 11}} {
		if got := o.Ready(x[0]); got != x[1] {
			t.Errorf("Ready(%d): %d, not %d", x[0], got, x[1])
		}
	}
	if got := o.Levels(); !slices.EqualFunc(got, [][]int{{0, 1, 3}, {2}}, slices.Equal) {
		t.Error("Levels:", got)
	}
	if got := slices.Collect(o.Downs()); !slices.Equal(got, []uint64{0, 1, 2, 3, 7, 8, 9, 10, 11, 15}) {
		t.Error("Downs:", got)
	}
	checkNoPlaces(t, made(t, model{}))
}

func checkNoPlaces(t *testing.T, o *order.Order) {
	if got := o.Levels(); len(got) != 0 {
		t.Error("no places: Levels", got)
	}
	if got := slices.Collect(o.Downs()); !slices.Equal(got, []uint64{0}) {
		t.Error("no places: Downs", got)
	}
	if o.Len() != 0 || o.Ready(0) != 0 || o.Ready(^uint64(0)) != 0 || o.Down(1) || len(o.Covers()) != 0 {
		t.Error("no places:", o.Len(), o.Ready(0), o.Ready(^uint64(0)), o.Down(1), o.Covers())
	}
}
