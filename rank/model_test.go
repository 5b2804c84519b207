package rank_test

import (
	"cmp"
	"math"
	"slices"
	"testing"

	"provost/api"
	"provost/rank"
)

type link = [2]int

// model is a hierarchy as the chapter's words say it: a plain list of links, in
// the order in which they were laid, followed one by one.
type model struct {
	links []link
}

func isPlace(a int) bool { return a >= 0 && a <= 63 }

func (m *model) over(senior, junior int) api.Errno {
	switch {
	case !isPlace(senior) || !isPlace(junior):
		return api.ErrArg
	case slices.Contains(m.links, link{senior, junior}):
		return api.ErrTwice
	case senior == junior || has(m.below(junior), senior):
		return api.ErrCycle
	}
	m.links = append(m.links, link{senior, junior})
	return api.OK
}

func (m *model) cut(senior, junior int) api.Errno {
	if !isPlace(senior) || !isPlace(junior) {
		return api.ErrArg
	}
	i := slices.Index(m.links, link{senior, junior})
	if i < 0 {
		return api.ErrLink
	}
	m.links = slices.Delete(m.links, i, i+1)
	return api.OK
}

func (m *model) drop(a int) int {
	was := len(m.links)
	m.links = slices.DeleteFunc(m.links, func(l link) bool { return l[0] == a || l[1] == a })
	return was - len(m.links)
}

// follow goes along links, from their end from to the other one, until they lead to nothing new.
func (m *model) follow(s uint64, from, to int) uint64 {
	for was := ^s; was != s; {
		was = s
		for _, l := range m.links {
			if has(s, l[from]) {
				s |= 1 << l[to]
			}
		}
	}
	return s
}

func (m *model) below(a int) uint64 { return m.follow(1<<a, 0, 1) }

func (m *model) above(a int) uint64 { return m.follow(1<<a, 1, 0) }

func (m *model) spread(s uint64) uint64 {
	var all uint64
	for a := range 64 {
		if has(s, a) {
			all |= m.below(a)
		}
	}
	return all
}

// depths are all places': each is raised over its juniors' until none is too low.
func (m *model) depths() [64]int {
	var d [64]int
	for raised := true; raised; {
		raised = false
		for _, l := range m.links {
			if d[l[0]] <= d[l[1]] {
				d[l[0]], raised = d[l[1]]+1, true
			}
		}
	}
	return d
}

// sorted are the links by senior, then by junior.
func (m *model) sorted() []link {
	l := slices.Clone(m.links)
	slices.SortFunc(l, func(x, y link) int { return cmp.Or(cmp.Compare(x[0], y[0]), cmp.Compare(x[1], y[1])) })
	return l
}

func has(s uint64, a int) bool { return s>>a&1 == 1 }

// noPlaces are numbers that are none, those among them whose lowest bits are a place's.
func noPlaces() []int {
	return []int{-1, -2, -63, -64, -65, 64, 65, 66, 127, 128, 129, 1 << 32, 1<<32 + 1, math.MaxInt - 1, math.MaxInt, math.MinInt, math.MinInt + 1}
}

// check holds all that a hierarchy tells of itself against the model.
func check(t *testing.T, r *rank.Rank, m *model) {
	t.Helper()
	if got := r.Links(); !slices.Equal(got, m.sorted()) {
		t.Fatalf("Links: %v, not %v", got, m.sorted())
	}
	depths := m.depths()
	for a := range 64 {
		if r.Below(a) != m.below(a) || r.Above(a) != m.above(a) || r.Depth(a) != depths[a] {
			t.Fatalf("%v: place %d: Below %x, Above %x, Depth %d, not %x, %x, %d", m.links, a, r.Below(a), r.Above(a), r.Depth(a), m.below(a), m.above(a), depths[a])
		}
		if r.Spread(1<<a) != r.Below(a) {
			t.Fatalf("%v: Spread of %d alone: %x", m.links, a, r.Spread(1<<a))
		}
		for b := range 64 {
			if r.Has(a, b) != slices.Contains(m.links, link{a, b}) {
				t.Fatalf("%v: Has(%d, %d): %v", m.links, a, b, r.Has(a, b))
			}
		}
	}
	for _, s := range []uint64{0, ^uint64(0), 1<<63 | 1, 0b1010, 0x5555555555555555, 0xf0f0 << 40} {
		if got := r.Spread(s); got != m.spread(s) {
			t.Fatalf("%v: Spread(%x): %x, not %x", m.links, s, got, m.spread(s))
		}
	}
	checkNoPlaces(t, r)
}

// checkNoPlaces: of a number that is no place nothing is there.
func checkNoPlaces(t *testing.T, r *rank.Rank) {
	t.Helper()
	for _, x := range noPlaces() {
		if r.Below(x) != 0 || r.Above(x) != 0 || r.Depth(x) != 0 || r.Has(x, x) {
			t.Fatalf("%d is no place: Below %x, Above %x, Depth %d, Has %v", x, r.Below(x), r.Above(x), r.Depth(x), r.Has(x, x))
		}
		for a := range 64 {
			if r.Has(x, a) || r.Has(a, x) {
				t.Fatalf("Has of %d, which is no place, and %d", x, a)
			}
		}
	}
}

// The kinds of calls of a row.
const (
	toOver = iota
	toCut
	toDrop
)

// call is one call of a row, with its numbers; a Drop has one alone.
type call struct {
	kind, x, y int
}

// do makes a call of both, and holds the answers against each other.
func do(t *testing.T, r *rank.Rank, m *model, c call) {
	t.Helper()
	switch c.kind {
	case toOver:
		wantOver(t, r, c.x, c.y, m.over(c.x, c.y))
	case toCut:
		wantCut(t, r, c.x, c.y, m.cut(c.x, c.y))
	case toDrop:
		wantDrop(t, r, c.x, m.drop(c.x))
	}
}

func wantOver(t *testing.T, r *rank.Rank, senior, junior int, want api.Errno) {
	t.Helper()
	if err := r.Over(senior, junior); err != want {
		t.Fatalf("Over(%d, %d): %v, not %v", senior, junior, err, want)
	}
}

func wantCut(t *testing.T, r *rank.Rank, senior, junior int, want api.Errno) {
	t.Helper()
	if err := r.Cut(senior, junior); err != want {
		t.Fatalf("Cut(%d, %d): %v, not %v", senior, junior, err, want)
	}
}

func wantDrop(t *testing.T, r *rank.Rank, a, want int) {
	t.Helper()
	if n := r.Drop(a); n != want {
		t.Fatalf("Drop(%d): %d, not %d", a, n, want)
	}
}

// of is a hierarchy with these links, all of which may be laid, and its model.
func of(t *testing.T, links ...link) (*rank.Rank, *model) {
	t.Helper()
	r, m := rank.New(), &model{}
	for _, l := range links {
		wantOver(t, r, l[0], l[1], api.OK)
		m.links = append(m.links, l)
	}
	return r, m
}

// draw makes numbers by a short rule.
type draw uint64

func (d *draw) below(n int) int {
	*d = *d*6364136223846793005 + 1442695040888963407
	return int(*d >> 33 % draw(n))
}

// number is a place with a number below n, or now and then none.
func (d *draw) number(n int) int {
	if d.below(40) == 0 {
		return noPlaces()[d.below(len(noPlaces()))]
	}
	// Turned round, so that the highest places are among the first ones.
	return (d.below(n) + 60) % 64
}

// rowOfCalls is a long row on n places; of a hundred calls, so many are Over, and so many Cut.
func rowOfCalls(seed, length, n, overs, cuts int) []call {
	d := draw(seed)
	var l []call
	for range length {
		c := call{toDrop, d.number(n), d.number(n)}
		switch k := d.below(100); {
		case k < overs:
			c.kind = toOver
		case k < overs+cuts:
			c.kind = toCut
		}
		l = append(l, c)
	}
	return l
}

// rows are rows of calls that fill a hierarchy, that keep it small, and between.
func rows() [][]call {
	return [][]call{
		rowOfCalls(1, 200, 6, 70, 25), rowOfCalls(2, 200, 12, 90, 8), rowOfCalls(3, 400, 64, 99, 0), rowOfCalls(4, 300, 9, 50, 45), rowOfCalls(5, 300, 30, 95, 4),
	}
}

// chain is that many links, each place over the one with the next number.
func chain(n int) []link {
	var l []link
	for a := range n {
		l = append(l, link{a, a + 1})
	}
	return l
}

// small are all sets of links of 4 places that may be laid, the highest and the lowest one among these.
func small(t *testing.T) []*model {
	places := []int{62, 0, 63, 5}
	var all []*model
	for w := range 1 << 12 {
		m, i, whole := &model{}, 0, true
		for _, a := range places {
			for _, b := range places {
				if a != b {
					whole = whole && (w>>i&1 == 0 || m.over(a, b) == api.OK)
					i++
				}
			}
		}
		if whole {
			all = append(all, m)
		}
	}
	if len(all) != 543 { // as many as there are acyclic graphs of 4 named places
		t.Fatal("hierarchies of 4 places:", len(all))
	}
	return all
}
