package order_test

import (
	"math"
	"slices"
	"testing"

	"provost/api"
	"provost/order"
)

// rows are all rows of all places in which no place comes ahead of one of its
// preds, sieved out of all rows that there are.
func (m model) rows() [][]int {
	var kept [][]int
	for _, row := range permutations(m.n) {
		if m.keeps(row) {
			kept = append(kept, row)
		}
	}
	return kept
}

func (m model) keeps(row []int) bool {
	for i, a := range row {
		for _, b := range row[i+1:] {
			if m.before(b, a) {
				return false
			}
		}
	}
	return true
}

// permutations are all rows of n places, rising.
func permutations(n int) [][]int {
	l := [][]int{{}}
	for range n {
		var longer [][]int
		for _, row := range l {
			for a := range n {
				if !slices.Contains(row, a) {
					longer = append(longer, append(slices.Clone(row), a))
				}
			}
		}
		l = longer
	}
	return l
}

// least is the row that the chapter's words make, turn by turn.
func (m model) least(priority []int) []int {
	var row []int
	var done uint64
	for len(row) < m.n {
		best := -1
		for a := range m.n {
			if m.ready(done)>>a&1 == 1 && (best < 0 || priority[a] < priority[best]) {
				best = a
			}
		}
		row = append(row, best)
		done |= 1 << best
	}
	return row
}

// priorities are rows of n priorities: all of a few numbers for a small n, and
// edges of what an int can be.
func priorities(n int) [][]int {
	l := [][]int{{}}
	for range n {
		var longer [][]int
		for _, row := range l {
			for _, p := range []int{0, -1, math.MaxInt, math.MinInt}[:min(4, 7-n)] {
				longer = append(longer, append(slices.Clone(row), p))
			}
		}
		l = longer
	}
	return append(l, permutations(n)...)
}

// P3.6, and P3.9 of Least

func TestLeast(t *testing.T) {
	for _, m := range orders() {
		o := made(t, m)
		for _, p := range priorities(m.n) {
			checkLeast(t, m, o, p)
		}
	}
	for _, m := range greater() {
		o := made(t, m)
		for i := range 40 {
			p := make([]int, m.n)
			for a := range p {
				p[a] = (a*(i+3)*7+i)%(1+i%m.n) - i%3
			}
			checkLeast(t, m, o, p)
		}
	}
}

func checkLeast(t *testing.T, m model, o *order.Order, p []int) {
	t.Helper()
	row, err := o.Least(p)
	if want := m.least(p); !slices.Equal(row, want) || err != api.OK {
		t.Errorf("%v: Least(%v): %v, %v, not %v", m, p, row, err, want)
	}
	if len(row) != m.n || !m.keeps(row) {
		t.Errorf("%v: Least(%v) is no row that keeps the order: %v", m, p, row)
	}
}

func TestLeastOfWrongNumbersOfPriorities(t *testing.T) {
	for _, n := range []int{0, 1, 2, 4, 63, 64} {
		for _, m := range []model{{n: n}, chain(n)} {
			o := made(t, m)
			for _, many := range []int{0, 1, n - 1, n, n + 1, 2 * n, n + 64, 1000} {
				if many < 0 {
					continue
				}
				want := api.ErrArg
				if many == n {
					want = api.OK
				}
				if row, err := o.Least(make([]int, many)); err != want || want != api.OK && row != nil {
					t.Errorf("Least of %d priorities of %d places: %v, %v", many, n, row, err)
				}
			}
		}
	}
}

func TestLeastOfSixtyFourPlaces(t *testing.T) {
	rising, falling := make([]int, 64), make([]int, 64)
	for a := range 64 {
		rising[a], falling[63-a] = a, a
	}
	free, row := made(t, model{n: 64}), made(t, chain(64))
	for _, x := range []struct {
		o              *order.Order
		priority, want []int
	}{{free, rising, rising}, {free, falling, falling}, {free, make([]int, 64), rising}, {row, rising, rising}, {row, falling, rising}} {
		if got, err := x.o.Least(x.priority); !slices.Equal(got, x.want) || err != api.OK {
			t.Errorf("Least(%v): %v, %v", x.priority, got, err)
		}
	}
}

// P3.8

func TestCount(t *testing.T) {
	for _, m := range append(orders(), greater()...) {
		if m.n > 7 {
			continue
		}
		o, all := made(t, m), uint64(len(m.rows()))
		for _, most := range []uint64{0, 1, 2, all / 2, all - 1, all, all + 1, 2 * all, 65535, 65536, 65537, 1 << 32, math.MaxUint64} {
			if got := o.Count(most); got != min(all, most) {
				t.Errorf("%v: Count(%d): %d, not %d", m, most, got, min(all, most))
			}
		}
	}
}

// The chapter's second example; 9! is above MaxCount.
func TestCountWithoutPairs(t *testing.T) {
	all := uint64(1)
	for n := range 65 {
		if n > 0 && all <= api.MaxCount {
			all *= uint64(n)
		}
		o := made(t, model{n: n})
		for _, most := range []uint64{0, 1, 719, 1000, 40319, 40320, 40321, 65535, 65536, 65537, 1 << 40, math.MaxUint64} {
			if got, want := o.Count(most), min(all, most, 65536); got != want {
				t.Errorf("%d places without pairs: Count(%d): %d, not %d", n, most, got, want)
			}
		}
	}
}

// pairsOfTwo is n levels of two places each: 2^n rows; what is left of 64 places is a chain behind or ahead of them.
func pairsOfTwo(n int, tail bool) model {
	m := model{n: 64}
	at := func(level, i int) int { return (level*2 + i) * 29 % 64 }
	for level := 1; level < 32; level++ {
		for i := range 2 {
			m.pairs = append(m.pairs, [2]int{at(level-1, i), at(level, 0)}, [2]int{at(level-1, i), at(level, 1)})
		}
	}
	for level := range 32 {
		if level >= n == tail {
			m.pairs = append(m.pairs, [2]int{at(level, 0), at(level, 1)})
		}
	}
	return m
}

func TestCountOfSixtyFourPlaces(t *testing.T) {
	if made(t, chain(64)).Count(math.MaxUint64) != 1 || made(t, chain(64)).Count(0) != 0 {
		t.Error("a chain:", made(t, chain(64)).Count(9))
	}
	for n := range 33 {
		o, from := made(t, pairsOfTwo(n, true)), made(t, pairsOfTwo(32-n, false))
		for _, most := range []uint64{0, 5, 1 << 10, 65535, 65536, 65537, math.MaxUint64} {
			if got, want := o.Count(most), min(uint64(1)<<n, most, 65536); got != want {
				t.Errorf("2^%d rows: Count(%d): %d, not %d", n, most, got, want)
			}
			if got, want := from.Count(most), min(uint64(1)<<n, most, 65536); got != want {
				t.Errorf("2^%d rows, by the last levels: Count(%d): %d, not %d", n, most, got, want)
			}
		}
	}
	aside := model{n: 64, pairs: chain(62).pairs}
	if got := made(t, aside).Count(math.MaxUint64); got != 63*64 {
		t.Error("a chain of 62 and two places aside:", got)
	}
}

// P3.9

func TestRowsOfWhatIsReady(t *testing.T) {
	for _, m := range orders() {
		o := made(t, m)
		var told [][]int
		var goOn func(row []int, done uint64)
		goOn = func(row []int, done uint64) {
			if len(row) == m.n {
				told = append(told, slices.Clone(row))
				return
			}
			if o.Ready(done) == 0 {
				t.Errorf("%v: nothing is ready behind %v", m, row)
			}
			for a := range m.n {
				if o.Ready(done)>>a&1 == 1 {
					goOn(append(row, a), done|1<<a)
				}
			}
		}
		goOn(nil, 0)
		if want := m.rows(); !slices.EqualFunc(told, want, slices.Equal) {
			t.Errorf("%v: rows of what is ready: %v, not %v", m, told, want)
		}
	}
}

// The chapter's runs of an order of four places, and of none.
func TestRowsRuns(t *testing.T) {
	o := made(t, model{n: 4, pairs: [][2]int{{0, 2}, {1, 2}}})
	for _, x := range []struct {
		priority, row []int
		err           api.Errno
	}{{[]int{5, 4, 3, 9}, []int{1, 0, 2, 3}, api.OK}, {[]int{0, 0, 0, 0}, []int{0, 1, 2, 3}, api.OK}, {[]int{1}, nil, api.ErrArg}} {
		if row, err := o.Least(x.priority); !slices.Equal(row, x.row) || err != x.err {
			t.Errorf("Least(%v): %v, %v", x.priority, row, err)
		}
	}
	if o.Count(100) != 8 || o.Count(5) != 5 || o.Count(0) != 0 {
		t.Error("Count:", o.Count(100), o.Count(5), o.Count(0))
	}
	o = made(t, model{})
	if row, err := o.Least(nil); len(row) != 0 || err != api.OK {
		t.Error("no places: Least", row, err)
	}
	if o.Count(9) != 1 || o.Count(0) != 0 {
		t.Error("no places: Count", o.Count(9), o.Count(0))
	}
}
