package rank_test

import (
	"slices"
	"testing"

	"provost/api"
	"provost/rank"
)

// P8.1

func TestEachLinkCanBeLaid(t *testing.T) {
	for a := range 64 {
		for b := range 64 {
			r := rank.New()
			if a == b {
				wantOver(t, r, a, b, api.ErrCycle)
				wantCut(t, r, a, b, api.ErrLink)
				wantLinks(t, r)
				continue
			}
			wantCut(t, r, a, b, api.ErrLink)
			wantOver(t, r, a, b, api.OK)
			wantOver(t, r, a, b, api.ErrTwice)
			wantOver(t, r, b, a, api.ErrCycle)
			wantCut(t, r, b, a, api.ErrLink)
			wantLinks(t, r, link{a, b})
			wantCut(t, r, a, b, api.OK)
			wantCut(t, r, a, b, api.ErrLink)
			wantOver(t, r, b, a, api.OK)
			wantLinks(t, r, link{b, a})
		}
	}
}

func TestTheLowestAndTheHighestPlace(t *testing.T) {
	for _, l := range []link{{0, 63}, {63, 0}} {
		r, m := of(t, l)
		check(t, r, m)
		do(t, r, m, call{toOver, l[1], l[0]})
		do(t, r, m, call{toOver, l[0], l[0]})
		do(t, r, m, call{toOver, l[1], 30})
		check(t, r, m)
		do(t, r, m, call{toCut, l[0], l[1]})
		check(t, r, m)
	}
}

// No place is told ahead of whatever else is wrong: with the lowest bits of a
// number alone the link would be there, or would close a cycle, or would not be there.
func TestNoPlaceIsToldFirst(t *testing.T) {
	for _, x := range noPlaces() {
		low := x & 63
		other := (low + 1) % 64
		for _, links := range [][]link{nil, {{low, other}}, {{other, low}}} {
			r, m := of(t, links...)
			for _, y := range []int{low, other, x, 64, -1, 0, 63} {
				wantOver(t, r, x, y, api.ErrArg)
				wantOver(t, r, y, x, api.ErrArg)
				wantCut(t, r, x, y, api.ErrArg)
				wantCut(t, r, y, x, api.ErrArg)
			}
			wantDrop(t, r, x, 0)
			check(t, r, m)
		}
	}
}

// A link that is there is twice, also where its ends are so tied by other links
// that the one the other way round would close a cycle many times.
func TestTwiceIsToldAheadOfCycles(t *testing.T) {
	r, m := of(t, link{0, 1}, link{1, 2}, link{0, 2}, link{2, 3}, link{0, 3})
	for _, l := range m.sorted() {
		wantOver(t, r, l[0], l[1], api.ErrTwice)
		wantOver(t, r, l[1], l[0], api.ErrCycle)
		wantOver(t, r, l[0], l[0], api.ErrCycle)
		check(t, r, m)
	}
}

func TestCyclesThroughChains(t *testing.T) {
	for n := 1; n < 64; n++ {
		r, m := of(t, chain(n)...)
		for a := range n + 1 {
			for b := range a + 1 {
				wantOver(t, r, a, b, api.ErrCycle)
			}
		}
		check(t, r, m)
		// With any link of it gone, the chain can be closed round the other way.
		for k := range n {
			wantCut(t, r, k, k+1, api.OK)
			wantOver(t, r, n, 0, api.OK)
			wantOver(t, r, k, k+1, api.ErrCycle)
			wantCut(t, r, n, 0, api.OK)
			wantOver(t, r, k, k+1, api.OK)
		}
		check(t, r, m)
	}
}

// Of two ways that lead to a place one is cut: the other one still closes a cycle, until it is cut too.
func TestCyclesBehindCuts(t *testing.T) {
	r, _ := of(t, link{9, 4}, link{4, 1}, link{9, 7}, link{7, 1})
	wantOver(t, r, 1, 9, api.ErrCycle)
	wantCut(t, r, 4, 1, api.OK)
	wantOver(t, r, 1, 9, api.ErrCycle)
	wantOver(t, r, 1, 4, api.OK)
	wantCut(t, r, 9, 7, api.OK)
	wantOver(t, r, 1, 9, api.OK)
	wantOver(t, r, 9, 7, api.ErrCycle)
	wantOver(t, r, 7, 9, api.OK)
	wantLinks(t, r, link{1, 4}, link{1, 9}, link{7, 1}, link{7, 9}, link{9, 4})
	wantDrop(t, r, 1, 3)
	wantOver(t, r, 4, 7, api.ErrCycle)
	wantOver(t, r, 4, 1, api.OK)
}

func TestALinkTurnedRound(t *testing.T) {
	r, m := of(t, link{1, 2}, link{2, 3}, link{1, 3})
	for range 3 {
		do(t, r, m, call{toOver, 3, 2})
		do(t, r, m, call{toCut, 2, 3})
		wantOver(t, r, 3, 2, api.OK)
		m.over(3, 2)
		check(t, r, m)
		do(t, r, m, call{toOver, 2, 3})
		do(t, r, m, call{toCut, 3, 2})
		wantOver(t, r, 2, 3, api.OK)
		m.over(2, 3)
		check(t, r, m)
	}
}

func TestDrop(t *testing.T) {
	links := []link{{5, 0}, {5, 63}, {63, 0}, {8, 5}, {9, 5}, {10, 5}, {9, 63}, {0, 1}}
	for a, want := range map[int]int{5: 5, 0: 3, 63: 3, 8: 1, 9: 2, 10: 1, 1: 1, 2: 0, 62: 0, 64: 0, -1: 0, 99: 0, 69: 0, -59: 0} {
		r, m := of(t, links...)
		wantDrop(t, r, a, want)
		if n := m.drop(a); n != want {
			t.Fatalf("of %d the model drops %d, not %d", a, n, want)
		}
		check(t, r, m)
		wantDrop(t, r, a, 0)
		check(t, r, m)
		for _, l := range links { // what has gone can be laid again, and is not twice
			do(t, r, m, call{toOver, l[0], l[1]})
		}
		check(t, r, m)
	}
}

func TestDropOfAStarAndOfNothing(t *testing.T) {
	for mid := range 64 {
		var links []link
		for a := range 64 {
			if a < mid {
				links = append(links, link{a, mid})
			} else if a > mid {
				links = append(links, link{mid, a})
			}
		}
		r, _ := of(t, links...)
		wantDrop(t, r, mid, 63)
		check(t, r, &model{})
		for _, x := range append(noPlaces(), mid, 0, 63) {
			wantDrop(t, r, x, 0)
		}
	}
}

// R3: what is refused changes nothing, and P8.1 of rows of calls.
func TestRowsOfCalls(t *testing.T) {
	for _, row := range rows() {
		r, m := rank.New(), &model{}
		answers := map[api.Errno]int{}
		for _, c := range row {
			if c.kind == toOver {
				answers[(&model{slices.Clone(m.links)}).over(c.x, c.y)]++
			}
			do(t, r, m, c)
			check(t, r, m)
		}
		if answers[api.OK] == 0 || answers[api.ErrTwice] == 0 || answers[api.ErrCycle] == 0 || answers[api.ErrArg] == 0 {
			t.Error("a row that tries too little:", answers)
		}
	}
}

// Each further link that can be tried on each hierarchy of 4 places.
func TestOneLinkMoreOfSmallOnes(t *testing.T) {
	places := []int{62, 0, 63, 5, 33, 64}
	for _, m := range small(t) {
		for _, a := range places {
			for _, b := range places {
				r, n := of(t, m.links...)
				do(t, r, n, call{toOver, a, b})
				wantLinks(t, r, n.sorted()...)
				do(t, r, n, call{toCut, a, b})
				wantLinks(t, r, n.sorted()...)
			}
		}
	}
}

// P8.3

func TestLinksHangOnNoOrder(t *testing.T) {
	want := []link{{0, 1}, {0, 63}, {1, 62}, {1, 63}, {7, 0}, {7, 1}, {7, 62}, {62, 2}, {62, 3}, {62, 63}}
	for from := range want {
		for _, step := range []int{1, 3, 7, 9} {
			r := rank.New()
			for i := range want {
				l := want[(from+i*step)%len(want)]
				wantOver(t, r, l[0], l[1], api.OK)
			}
			wantLinks(t, r, want...)
			wantCut(t, r, 1, 62, api.OK)
			wantOver(t, r, 1, 62, api.OK)
			wantLinks(t, r, want...)
		}
	}
}

// As many links as there can be: of each two places the greater one over the lesser one.
func TestAllLinksThereCanBe(t *testing.T) {
	var want []link
	for a := range 64 {
		for b := range a {
			want = append(want, link{a, b})
		}
	}
	r, m := of(t, want...)
	wantLinks(t, r, want...)
	check(t, r, m)
	for a := range 64 {
		for b := range 64 {
			do(t, r, m, call{toOver, a, b})
		}
	}
	check(t, r, m)
	for a := range 64 {
		wantDrop(t, r, a, 63-a)
	}
	check(t, r, &model{})
}
