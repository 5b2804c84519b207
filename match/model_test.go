package match_test

import (
	"math"
	"slices"
	"testing"

	"provost/match"
)

// rows makes rows of lists of places.
func rows(lists ...[]int) []uint64 {
	var l []uint64
	for _, places := range lists {
		l = append(l, word(places...))
	}
	return l
}

// word is the word of a set.
func word(numbers ...int) uint64 {
	var w uint64
	for _, i := range numbers {
		w |= 1 << i
	}
	return w
}

// alike is n rows that may have the same places.
func alike(n int, w uint64) []uint64 { return slices.Repeat([]uint64{w}, n) }

// below is the word of the places that are below n.
func below(n int) uint64 { return 1<<n - 1 }

// model is rows as the chapter's words say them: lists are tried out, all of them.
type model []uint64

// all are the full matchings, in their order.
func (m model) all() [][]int {
	lists := [][]int{{}}
	for _, w := range m {
		var longer [][]int
		for _, l := range lists {
			for u := range 64 {
				if w>>u&1 == 1 && !slices.Contains(l, u) {
					longer = append(longer, append(slices.Clone(l), u))
				}
			}
		}
		lists = longer
	}
	return lists
}

// chosen are the sets of rows as rising lists: those of fewer rows come first, and
// of as many the first list.
func (m model) chosen() [][]int {
	var lists [][]int
	for s := range 1 << len(m) {
		var l []int
		for row := range m {
			if s>>row&1 == 1 {
				l = append(l, row)
			}
		}
		lists = append(lists, l)
	}
	slices.SortFunc(lists, func(a, b []int) int {
		if len(a) != len(b) {
			return len(a) - len(b)
		}
		return slices.Compare(a, b)
	})
	return lists
}

// picked are the rows of a list.
func (m model) picked(list []int) model {
	var l model
	for _, row := range list {
		l = append(l, m[row])
	}
	return l
}

// reach is how many places the rows may have all together.
func (m model) reach() int {
	n := 0
	for u := range 64 {
		if slices.ContainsFunc(m, func(w uint64) bool { return w>>u&1 == 1 }) {
			n++
		}
	}
	return n
}

func (m model) size() int {
	most := 0
	for _, l := range m.chosen() {
		if len(l) > most && len(m.picked(l).all()) > 0 {
			most = len(l)
		}
	}
	return most
}

func (m model) short() []int {
	for _, l := range m.chosen() {
		if m.picked(l).reach() < len(l) {
			return l
		}
	}
	return nil
}

// check holds all calls against the model.
func check(t *testing.T, m model) {
	t.Helper()
	all := m.all()
	checkLeast(t, m, all)
	if got, want := match.Size(m), m.size(); got != want {
		t.Fatalf("%x: Size: %d, not %d", m, got, want)
	}
	if got, want := match.Short(m), m.short(); !slices.Equal(got, want) {
		t.Fatalf("%x: Short: %v, not %v", m, got, want)
	}
	checkFree(t, m, all)
	checkCount(t, m, len(all))
}

func checkLeast(t *testing.T, m model, all [][]int) {
	t.Helper()
	var want []int
	if len(all) > 0 {
		want = all[0]
	}
	if got, ok := match.Least(m); !slices.Equal(got, want) || ok != (len(all) > 0) {
		t.Fatalf("%x: Least: %v, %v; not %v", m, got, ok, want)
	}
}

func checkFree(t *testing.T, m model, all [][]int) {
	t.Helper()
	for i := range m {
		var want uint64
		for _, l := range all {
			want |= 1 << l[i]
		}
		if got := match.Free(m, i); got != want {
			t.Fatalf("%x: Free(%d): %x, not %x", m, i, got, want)
		}
	}
	for _, i := range []int{-1, len(m), len(m) + 1, 63, 64, math.MinInt, math.MaxInt} {
		if got := match.Free(m, i); got != 0 {
			t.Fatalf("%x: Free(%d), which is no row: %x", m, i, got)
		}
	}
}

func checkCount(t *testing.T, m model, n int) {
	t.Helper()
	for _, most := range []uint64{0, 1, 2, uint64(max(n-1, 0)), uint64(n), uint64(n + 1), 65535, 65536, 65537, 1 << 63, math.MaxUint64} {
		want := min(uint64(n), most, 65536)
		if got := match.Count(m, most); got != want {
			t.Fatalf("%x: Count up to %d: %d, not %d", m, most, got, want)
		}
	}
}

// draw makes numbers by a short rule.
type draw uint64

func (d *draw) below(n int) int {
	*d = *d*6364136223846793005 + 1442695040888963407
	return int(*d >> 33 % draw(n))
}

// rows are n rows, each with each of the places in so many of a hundred cases.
func (d *draw) rows(n int, places []int, often int) model {
	m := make(model, n)
	for row := range m {
		for _, u := range places {
			if d.below(100) < often {
				m[row] |= 1 << u
			}
		}
	}
	return m
}

// spread are n places of which the highest and the lowest are among the first.
func spread(n int) []int {
	return []int{63, 0, 31, 62, 32, 1, 7, 50}[:n]
}

// every are all lists of n rows that have no other places than these.
func every(n int, places []int) []model {
	all := []model{nil}
	for range n {
		var longer []model
		for _, m := range all {
			for s := range 1 << len(places) {
				var w uint64
				for i, u := range places {
					w |= uint64(s>>i&1) << u
				}
				longer = append(longer, append(slices.Clone(m), w))
			}
		}
		all = longer
	}
	return all
}

// drawn are lists of up to six rows, with few places, with many, and between.
func drawn() []model {
	var all []model
	d := draw(11)
	for range 60 {
		for n := range 7 {
			for _, often := range []int{20, 35, 60} {
				all = append(all, d.rows(n, spread(4+d.below(5)), often))
			}
		}
	}
	return all
}

// long are lists of up to twelve rows which are drawn so that there is a full
// matching, or so that there is none, more often than not.
func long() []model {
	var all []model
	d := draw(12)
	for range 20 {
		for n := 7; n <= 12; n++ {
			m := d.rows(n, []int{0, 3, 5, 8, 13, 21, 34, 40, 45, 55, 60, 62, 63}, 12)
			own := d.below(3)
			for row := range m {
				if own > 0 || row > 2 {
					m[row] |= 1 << (63 - 5*row)
				}
			}
			all = append(all, m)
		}
	}
	return all
}
