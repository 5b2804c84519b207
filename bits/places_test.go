package bits_test

import (
	"slices"
	"testing"

	"provost/bits"
)

// P1.4

func TestPlaces(t *testing.T) {
	inAll(t, checkPlaces[uint8], checkPlaces[uint16], checkPlaces[uint32], checkPlaces[uint64], checkPlaces[mark])
}

func checkPlaces[W bits.Word](t *testing.T) {
	for _, w := range words[W]() {
		s, l := of(w), numbers(w)
		low, high := -1, -1
		if len(l) > 0 {
			low, high = l[0], l[len(l)-1]
		}
		if s.Len() != len(l) || s.Low() != low || s.High() != high {
			t.Errorf("%#x: Len %d, Low %d, High %d", w, s.Len(), s.Low(), s.High())
		}
		if got := s.Places(); !slices.Equal(got, l) {
			t.Errorf("%#x.Places: %v", w, got)
		}
		for _, i := range ints(widthOf[W]()) {
			checkPlace(t, w, i)
		}
	}
}

// checkPlace asks what hangs on one int, which is meant as a place and as a rank.
func checkPlace[W bits.Word](t *testing.T, w W, i int) {
	s, l := of(w), numbers(w)
	next, rank, nth := -1, 0, -1
	for _, x := range l {
		if x >= i && next < 0 {
			next = x
		}
		if x < i {
			rank++
		}
	}
	if 0 <= i && i < len(l) {
		nth = l[i]
	}
	if s.Next(i) != next || s.Rank(i) != rank || s.Nth(i) != nth {
		t.Errorf("%#x of %d: Next %d, Rank %d, Nth %d; not %d, %d, %d", w, i, s.Next(i), s.Rank(i), s.Nth(i), next, rank, nth)
	}
}

func TestPlacesRuns(t *testing.T) {
	s := of[uint8](0b10010110)
	got := []int{s.Len(), s.Low(), s.High(), s.Next(3), s.Next(8), s.Rank(4), s.Nth(2), s.Nth(4), s.Rank(-9), s.Rank(99)}
	if want := []int{4, 1, 7, 4, -1, 2, 4, -1, 0, 4}; !slices.Equal(got, want) {
		t.Errorf("%v, not %v", got, want)
	}
}

// R2

func TestPlacesAreNewMemory(t *testing.T) {
	inAll(t, checkNewMemory[uint8], checkNewMemory[uint16], checkNewMemory[uint32], checkNewMemory[uint64], checkNewMemory[mark])
}

func checkNewMemory[W bits.Word](t *testing.T) {
	for _, w := range words[W]() {
		first, second := of(w).Places(), of(w).Places()
		whole := slices.Clone(second[:cap(second)])
		spoil(first)
		if !slices.Equal(second[:cap(second)], whole) {
			t.Fatalf("%#x: two answers of Places share memory: %v", w, second)
		}
		if third := of(w).Places(); !slices.Equal(third, numbers(w)) {
			t.Fatalf("%#x: Places hands out what it keeps: %v", w, third)
		}
	}
}

// spoil writes over a list and over its spare room.
func spoil(l []int) {
	l = l[:cap(l)]
	for i := range l {
		l[i] = -77
	}
}

// P1.7, of places

func TestNthOfRank(t *testing.T) {
	inAll(t, checkNthOfRank[uint8], checkNthOfRank[uint16], checkNthOfRank[uint32], checkNthOfRank[uint64], checkNthOfRank[mark])
}

func checkNthOfRank[W bits.Word](t *testing.T) {
	for _, w := range words[W]() {
		for _, i := range numbers(w) {
			if got := of(w).Nth(of(w).Rank(i)); got != i {
				t.Errorf("%#x.Nth(Rank(%d)): %d", w, i, got)
			}
		}
	}
}
