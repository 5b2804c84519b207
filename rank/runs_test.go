package rank_test

import (
	"slices"
	"testing"

	"provost/api"
	"provost/rank"
)

// The chapter's runs, in their order, on one hierarchy.
func TestRuns(t *testing.T) {
	r := rank.New()
	wantOver(t, r, 1, 2, api.OK)
	wantOver(t, r, 2, 3, api.OK)
	wantOver(t, r, 1, 2, api.ErrTwice)
	wantOver(t, r, 3, 1, api.ErrCycle)
	wantOver(t, r, 4, 4, api.ErrCycle)
	wantOver(t, r, 64, 1, api.ErrArg)
	wantOver(t, r, 1, -1, api.ErrArg)
	wantWord(t, "Below(1)", r.Below(1), 14)
	wantWord(t, "Above(3)", r.Above(3), 14)
	wantDepth(t, r, 1, 2)
	wantLinks(t, r, link{1, 2}, link{2, 3})
	wantWord(t, "Spread(6)", r.Spread(6), 14)
	wantOver(t, r, 1, 3, api.OK)
	wantCut(t, r, 2, 3, api.OK)
	wantWord(t, "Below(1)", r.Below(1), 14)
	wantCut(t, r, 2, 3, api.ErrLink)
	wantOver(t, r, 3, 2, api.OK)
	wantWord(t, "Below(1)", r.Below(1), 14)
	wantDrop(t, r, 3, 2)
	wantLinks(t, r, link{1, 2})
	wantDrop(t, r, 3, 0)
	wantDrop(t, r, 99, 0)
	wantWord(t, "Below(64)", r.Below(64), 0)
	wantWord(t, "Above(-1)", r.Above(-1), 0)
	wantDepth(t, r, 64, 0)
	wantWord(t, "Spread(0)", r.Spread(0), 0)
}

// The chapter's first example.
func TestPlacesWithoutLinks(t *testing.T) {
	check(t, rank.New(), &model{})
	r, _ := of(t, link{1, 2})
	for a := range 64 {
		if a != 1 && a != 2 && (r.Below(a) != 1<<a || r.Above(a) != 1<<a || r.Depth(a) != 0) {
			t.Errorf("place %d: Below %x, Above %x, Depth %d", a, r.Below(a), r.Above(a), r.Depth(a))
		}
	}
}

// The chapter's second example: two hierarchies in turns, and one that is made
// while the others stand.
func TestHierarchiesAreApart(t *testing.T) {
	r, m := rank.New(), &model{}
	s, n := rank.New(), &model{}
	others := rows()[3]
	for i, c := range rows()[0] {
		do(t, r, m, c)
		do(t, s, n, others[i])
		check(t, r, m)
		check(t, s, n)
	}
	check(t, rank.New(), &model{})
}

// What one of them refuses the other one takes.
func TestLinksAreTheHierarchysOwn(t *testing.T) {
	r, s := rank.New(), rank.New()
	wantOver(t, r, 1, 2, api.OK)
	wantCut(t, s, 1, 2, api.ErrLink)
	wantOver(t, s, 2, 1, api.OK)
	wantOver(t, r, 2, 1, api.ErrCycle)
	wantOver(t, s, 1, 2, api.ErrCycle)
	wantDrop(t, s, 1, 1)
	wantLinks(t, r, link{1, 2})
	wantLinks(t, s)
}

// R2: what is told is the caller's own, its spare room too.

func spoil(l []link) {
	l = l[:cap(l)]
	for i := range l {
		l[i] = link{77, -77}
	}
}

func TestLinksThatAreToldAreTheCallersOwn(t *testing.T) {
	for _, row := range rows() {
		r, m := rank.New(), &model{}
		var kept, copies [][]link
		for i, c := range row {
			do(t, r, m, c)
			if i%20 > 0 {
				continue
			}
			first, second := r.Links(), r.Links()
			spoil(first)
			if !slices.Equal(second, m.sorted()) {
				t.Fatalf("spoilt with another answer: %v, not %v", second, m.sorted())
			}
			check(t, r, m)
			kept, copies = append(kept, second), append(copies, slices.Clone(second))
		}
		for i, l := range kept {
			if !slices.Equal(l, copies[i]) {
				t.Errorf("links that were told have become %v, from %v", l, copies[i])
			}
		}
	}
}

func wantWord(t *testing.T, call string, got, want uint64) {
	t.Helper()
	if got != want {
		t.Errorf("%s: %x, not %x", call, got, want)
	}
}

func wantDepth(t *testing.T, r *rank.Rank, a, want int) {
	t.Helper()
	if got := r.Depth(a); got != want {
		t.Errorf("Depth(%d): %d, not %d", a, got, want)
	}
}

func wantLinks(t *testing.T, r *rank.Rank, want ...link) {
	t.Helper()
	if got := r.Links(); !slices.Equal(got, want) {
		t.Errorf("Links: %v, not %v", got, want)
	}
}
