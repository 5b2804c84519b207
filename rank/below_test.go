package rank_test

import (
	"testing"

	"provost/api"
	"provost/rank"
)

// P8.2

func TestChainsOfSixtyFourPlaces(t *testing.T) {
	for _, step := range []int{1, 63, 5, 27} { // in which order the places stand in the chain
		at := func(i int) int { return i * step % 64 }
		r, m := rank.New(), &model{}
		for i := range 63 {
			do(t, r, m, call{toOver, at(i), at(i + 1)})
		}
		check(t, r, m)
		var above uint64
		for i := range 64 {
			above |= 1 << at(i)
			if a := at(i); r.Above(a) != above || r.Below(a) != ^above|1<<a || r.Depth(a) != 63-i {
				t.Errorf("steps of %d: place %d: Above %x, Below %x, Depth %d", step, a, r.Above(a), r.Below(a), r.Depth(a))
			}
		}
		wantOver(t, r, at(63), at(0), api.ErrCycle)
		do(t, r, m, call{toCut, at(31), at(32)})
		check(t, r, m)
		do(t, r, m, call{toDrop, at(10), 0})
		check(t, r, m)
		do(t, r, m, call{toOver, at(9), at(11)})
		check(t, r, m)
	}
}

// Several ways lead to one place, in layers of places each of which stands over
// all of the next layer: so many ways that none could go along each.
func TestSeveralWays(t *testing.T) {
	for _, width := range []int{1, 2, 4, 8, 16, 32} {
		r, m := rank.New(), &model{}
		for a := range 64 - width {
			for b := range width {
				do(t, r, m, call{toOver, a, (a/width+1)*width + b})
			}
		}
		check(t, r, m)
		for a := range 64 {
			wantDepth(t, r, a, 64/width-1-a/width)
		}
		// A place alone has gone out of a layer: ways past it are left, if it was not alone there.
		do(t, r, m, call{toDrop, width, 0})
		check(t, r, m)
		do(t, r, m, call{toCut, 0, 2*width - 1})
		check(t, r, m)
	}
}

func TestDepthIsTheLongestWay(t *testing.T) {
	// Short ways are laid first, and last.
	r, m := of(t, link{0, 9}, link{0, 1}, link{1, 2}, link{2, 3}, link{3, 9}, link{1, 9})
	wantDepth(t, r, 0, 4)
	wantDepth(t, r, 1, 3)
	wantDepth(t, r, 9, 0)
	check(t, r, m)
	wantOver(t, r, 9, 40, api.OK)
	wantDepth(t, r, 0, 5)
	wantCut(t, r, 3, 9, api.OK)
	wantDepth(t, r, 0, 3) // down to 3, and through 1 and 9 to 40
	wantCut(t, r, 1, 9, api.OK)
	wantDepth(t, r, 0, 3)
	wantCut(t, r, 2, 3, api.OK)
	wantDepth(t, r, 0, 2)
	wantDrop(t, r, 0, 2)
	wantDepth(t, r, 0, 0)
}

// A chain with a link from each place to its end: the shortest way is one link, the longest the chain.
func TestDepthWithShortWays(t *testing.T) {
	r, m := rank.New(), &model{}
	for a := range 63 {
		do(t, r, m, call{toOver, a, 63})
	}
	for a := range 63 {
		do(t, r, m, call{toOver, a, a + 1})
	}
	check(t, r, m)
	for a := range 64 {
		wantDepth(t, r, a, 63-a)
	}
}

func TestSpreadByHand(t *testing.T) {
	r, _ := of(t, link{1, 2}, link{2, 3}, link{4, 3}, link{63, 0})
	for _, x := range []struct{ s, want uint64 }{
		{0, 0}, {1, 1}, {0b10, 0b1110}, {0b100, 0b1100}, {0b1000, 0b1000}, {0b10000, 0b11000}, {0b10010, 0b11110},
		{1 << 63, 1<<63 | 1}, {1 << 62, 1 << 62}, {1<<63 | 0b100000, 1<<63 | 0b100001}, {^uint64(0), ^uint64(0)},
	} {
		wantWord(t, "Spread", r.Spread(x.s), x.want)
	}
	for _, s := range []uint64{0, 1, 1 << 63, 0xdeadbeef, ^uint64(0)} { // without links all is itself
		wantWord(t, "Spread without links", rank.New().Spread(s), s)
	}
}

func TestSpreadOfEachSetOfSmallOnes(t *testing.T) {
	places := []int{62, 0, 63, 5, 33}
	for _, m := range small(t) {
		r, _ := of(t, m.links...)
		for w := range 1 << len(places) {
			var s uint64
			for i, a := range places {
				s |= uint64(w>>i&1) << a
			}
			if got := r.Spread(s); got != m.spread(s) {
				t.Errorf("%v: Spread(%x): %x, not %x", m.links, s, got, m.spread(s))
			}
		}
	}
}

func TestSmallOnes(t *testing.T) {
	for _, m := range small(t) {
		r, n := of(t, m.links...)
		check(t, r, n)
		for _, a := range []int{62, 0, 63, 5, 33} {
			r, n := of(t, m.links...)
			do(t, r, n, call{toDrop, a, 0})
			check(t, r, n)
		}
		for _, l := range m.links {
			do(t, r, n, call{toCut, l[0], l[1]})
			check(t, r, n)
		}
	}
}

// P8.4

// belows are what is below each place.
func belows(r *rank.Rank) [64]uint64 {
	var all [64]uint64
	for a := range all {
		all[a] = r.Below(a)
	}
	return all
}

func checkMirrored(t *testing.T, r *rank.Rank) {
	t.Helper()
	down := belows(r)
	for b := range 64 {
		above := r.Above(b)
		for a := range 64 {
			if has(down[a], b) != has(above, a) {
				t.Fatalf("%v: %d is in Below(%d): %v; %d is in Above(%d): %v", r.Links(), b, a, has(down[a], b), a, b, has(above, a))
			}
		}
	}
}

func TestBelowAndAboveAreMirrored(t *testing.T) {
	for _, m := range small(t) {
		r, _ := of(t, m.links...)
		checkMirrored(t, r)
	}
	for _, row := range rows() {
		r, m := rank.New(), &model{}
		for _, c := range row {
			do(t, r, m, c)
			checkMirrored(t, r)
		}
	}
}

// A link more makes no Below less; one less makes none greater; what is refused leaves all.
func TestBelowGrowsWithLinks(t *testing.T) {
	for _, row := range rows() {
		r := rank.New()
		was := belows(r)
		for _, c := range row {
			err := api.ErrArg
			switch c.kind {
			case toOver:
				err = r.Over(c.x, c.y)
			case toCut:
				err = r.Cut(c.x, c.y)
			}
			now := belows(r)
			for a := range now {
				lost, won := was[a]&^now[a] != 0, now[a]&^was[a] != 0
				if lost && (c.kind == toOver || err != api.OK) || won && (c.kind == toCut || err != api.OK) {
					t.Fatalf("call %v: Below(%d) was %x and is %x", c, a, was[a], now[a])
				}
			}
			if c.kind == toDrop {
				r.Drop(c.x)
				now = belows(r)
			}
			was = now
		}
	}
}
