package order_test

import (
	"math"
	"slices"
	"testing"

	"provost/api"
	"provost/order"
)

// model is an order as the chapter's words say it: pairs, and rows of pairs that
// are followed by hand.
type model struct {
	n     int
	pairs [][2]int
}

// leads: does a row of one to most pairs lead from a to b?
func (m model) leads(a, b, most int) bool {
	for _, p := range m.pairs {
		if most > 0 && p[0] == a && (p[1] == b || m.leads(p[1], b, most-1)) {
			return true
		}
	}
	return false
}

// before: a row that leads somewhere at all does so in at most n pairs.
func (m model) before(a, b int) bool { return m.leads(a, b, m.n) }

func (m model) cyclic() bool {
	for a := range m.n {
		if m.before(a, a) {
			return true
		}
	}
	return false
}

// preds and succs are what comes ahead of a place and behind it, as a word.
func (m model) preds(a int) uint64 {
	var w uint64
	for b := range m.n {
		if m.before(b, a) {
			w |= 1 << b
		}
	}
	return w
}

func (m model) succs(a int) uint64 {
	var w uint64
	for b := range m.n {
		if m.before(a, b) {
			w |= 1 << b
		}
	}
	return w
}

// pairsOf are all pairs of n places, {a, a} among them or not.
func pairsOf(n int, same bool) [][2]int {
	var all [][2]int
	for a := range n {
		for b := range n {
			if same || a != b {
				all = append(all, [2]int{a, b})
			}
		}
	}
	return all
}

// chosen are all sets of these pairs.
func chosen(n int, pairs [][2]int) []model {
	var l []model
	for w := range 1 << len(pairs) {
		m := model{n: n}
		for i, p := range pairs {
			if w>>i&1 == 1 {
				m.pairs = append(m.pairs, p)
			}
		}
		l = append(l, m)
	}
	return l
}

// orders are all orders of up to 4 places, by each set of pairs that makes them.
func orders() []model {
	var l []model
	for n := range 5 {
		l = append(l, chosen(n, pairsOf(n, false))...)
	}
	return slices.DeleteFunc(l, model.cyclic)
}

// greater are orders of 5 to 8 places, of pairs that a short rule picks.
func greater() []model {
	var l []model
	x := uint64(20261116)
	for i := range 60 {
		m := model{n: 5 + i%4}
		for a := range m.n {
			for b := range a {
				x = x*6364136223846793005 + 1442695040888963407
				if x>>60 < uint64(2+i%5) {
					// Turned round, so that greater numbers come ahead of smaller ones too.
					m.pairs = append(m.pairs, [2]int{(a*11 + i) % m.n, (b*11 + i) % m.n})
				}
			}
		}
		l = append(l, m)
	}
	return l
}

func made(t *testing.T, m model) *order.Order {
	t.Helper()
	o, err := order.New(m.n, m.pairs)
	if o == nil || err != api.OK {
		t.Fatalf("New(%d, %v): %v", m.n, m.pairs, err)
	}
	return o
}

// chain is n places, each ahead of the one with the next number.
func chain(n int) model {
	m := model{n: n}
	for a := 1; a < n; a++ {
		m.pairs = append(m.pairs, [2]int{a - 1, a})
	}
	return m
}

func wantNew(t *testing.T, n int, pairs [][2]int, want api.Errno) {
	t.Helper()
	if o, err := order.New(n, pairs); err != want || (o == nil) != (want != api.OK) {
		t.Errorf("New(%d, %v): %v, %v, not %v", n, pairs, o, err, want)
	}
}

// P3.1

func TestNewOfNumbersOfPlaces(t *testing.T) {
	for n := range 65 {
		wantNew(t, n, nil, api.OK)
	}
	for _, n := range []int{65, 66, 128, 1 << 32, math.MaxInt, -1, -2, -64, math.MinInt} {
		wantNew(t, n, nil, api.ErrArg)
		wantNew(t, n, [][2]int{{0, 1}}, api.ErrArg)
		wantNew(t, n, [][2]int{{0, 0}}, api.ErrArg)
	}
	wantNew(t, 64, [][2]int{{63, 0}, {0, 62}}, api.OK)
	wantNew(t, 0, [][2]int{}, api.OK)
}

func TestNewOfNumbersThatAreNoPlaces(t *testing.T) {
	for _, n := range []int{0, 1, 2, 5, 63, 64} {
		for _, x := range []int{-1, -2, n, n + 1, n + 64, -64, 1 << 32, math.MaxInt, math.MinInt} {
			wantNew(t, n, [][2]int{{x, 0}}, api.ErrArg)
			wantNew(t, n, [][2]int{{0, x}}, api.ErrArg)
			wantNew(t, n, [][2]int{{x, x}}, api.ErrArg)
			if n > 1 {
				wantNew(t, n, [][2]int{{0, 1}, {0, 1}, {1, x}}, api.ErrArg)
			}
		}
	}
}

func TestNewTellsWrongNumbersAheadOfCycles(t *testing.T) {
	for _, wrong := range [][2]int{{3, 0}, {0, 3}, {-1, 2}, {2, -1}} {
		wantNew(t, 3, [][2]int{{0, 0}, wrong}, api.ErrArg)
		wantNew(t, 3, [][2]int{wrong, {0, 0}}, api.ErrArg)
		wantNew(t, 3, [][2]int{{0, 1}, {1, 0}, wrong}, api.ErrArg)
	}
}

func TestNewOfCycles(t *testing.T) {
	for n := 1; n <= 64; n++ {
		ring := append(chain(n).pairs, [2]int{n - 1, 0})
		wantNew(t, n, ring, api.ErrCycle)
		slices.Reverse(ring)
		wantNew(t, n, ring, api.ErrCycle)
		wantNew(t, n, ring[1:], api.OK)
		wantNew(t, n, [][2]int{{n - 1, n - 1}}, api.ErrCycle)
	}
	wantNew(t, 5, [][2]int{{0, 1}, {1, 2}, {2, 3}, {3, 1}}, api.ErrCycle)
	wantNew(t, 5, [][2]int{{3, 1}, {2, 3}, {1, 2}, {0, 1}, {1, 4}}, api.ErrCycle)
}

// All sets of pairs of up to 3 places, {a, a} among them, and all of 4 places without.
func TestNewIsTheDefinition(t *testing.T) {
	for n := range 5 {
		for _, m := range chosen(n, pairsOf(n, n < 4)) {
			want := api.OK
			if m.cyclic() {
				want = api.ErrCycle
			}
			wantNew(t, n, m.pairs, want)
		}
	}
}

func TestPairsMayStandThereTwice(t *testing.T) {
	for _, m := range orders() {
		twice := model{n: m.n, pairs: append(slices.Clone(m.pairs), m.pairs...)}
		slices.Reverse(twice.pairs)
		checkPairs(t, m, made(t, twice))
	}
	many := make([][2]int, 100000)
	for i := range many {
		many[i] = [2]int{1, 0}
	}
	if o := made(t, model{n: 2, pairs: many}); o.Preds(0) != 2 || o.Preds(1) != 0 {
		t.Error("one pair many times:", o.Preds(0), o.Preds(1))
	}
}

// P3.2, P3.3

func TestPairs(t *testing.T) {
	for _, m := range append(orders(), greater()...) {
		checkPairs(t, m, made(t, m))
	}
}

func checkPairs(t *testing.T, m model, o *order.Order) {
	t.Helper()
	if o.Len() != m.n {
		t.Errorf("%v: Len %d", m, o.Len())
	}
	var covers [][2]int
	for a := range m.n {
		if o.Preds(a) != m.preds(a) || o.Succs(a) != m.succs(a) {
			t.Errorf("%v: Preds(%d) %b, Succs %b", m, a, o.Preds(a), o.Succs(a))
		}
		for b := range m.n {
			if o.Before(a, b) != m.before(a, b) {
				t.Errorf("%v: Before(%d, %d): %v", m, a, b, o.Before(a, b))
			}
			if m.before(a, b) && m.succs(a)&m.preds(b) == 0 {
				covers = append(covers, [2]int{a, b})
			}
		}
	}
	if got := o.Covers(); !slices.Equal(got, covers) {
		t.Errorf("%v: Covers %v, not %v", m, got, covers)
	}
	for _, x := range []int{-1, -64, m.n, m.n + 1, 64, 65, 1 << 32, math.MaxInt, math.MinInt} {
		if o.Preds(x) != 0 || o.Succs(x) != 0 || o.Before(x, x) {
			t.Errorf("%v: %d is no place: %b, %b", m, x, o.Preds(x), o.Succs(x))
		}
		for a := range m.n {
			if o.Before(a, x) || o.Before(x, a) {
				t.Errorf("%v: Before of %d, which is no place, and %d", m, x, a)
			}
		}
	}
}

func TestPairsOfSixtyFourPlaces(t *testing.T) {
	o := made(t, chain(64))
	for a := range 64 {
		if o.Preds(a) != 1<<a-1 || o.Succs(a) != ^uint64(0)<<a<<1 {
			t.Errorf("a chain: Preds(%d) %x, Succs %x", a, o.Preds(a), o.Succs(a))
		}
		for b := range 64 {
			if o.Before(a, b) != (a < b) {
				t.Errorf("a chain: Before(%d, %d)", a, b)
			}
		}
	}
	if got := o.Covers(); !slices.Equal(got, chain(64).pairs) {
		t.Error("a chain: Covers", got)
	}
	if got := made(t, model{n: 64}).Covers(); len(got) != 0 {
		t.Error("no pairs: Covers", got)
	}
}

// The chapter's first runs.
func TestPairsRuns(t *testing.T) {
	for _, pairs := range [][][2]int{{{0, 1}, {1, 2}}, {{0, 1}, {1, 2}, {0, 2}}} {
		o := made(t, model{n: 3, pairs: pairs})
		if !o.Before(0, 2) || o.Preds(2) != 3 || o.Succs(0) != 6 {
			t.Errorf("%v: %v, %d, %d", pairs, o.Before(0, 2), o.Preds(2), o.Succs(0))
		}
		if got := o.Covers(); !slices.Equal(got, [][2]int{{0, 1}, {1, 2}}) {
			t.Errorf("%v: Covers %v", pairs, got)
		}
	}
	wantNew(t, 2, [][2]int{{0, 1}, {1, 0}}, api.ErrCycle)
	wantNew(t, 1, [][2]int{{0, 0}}, api.ErrCycle)
	wantNew(t, 2, [][2]int{{0, 2}}, api.ErrArg)
	wantNew(t, 65, nil, api.ErrArg)
	wantNew(t, -1, nil, api.ErrArg)
}
