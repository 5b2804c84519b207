package part_test

import (
	"math"
	"slices"
	"strings"
	"testing"

	"provost/api"
	"provost/part"
)

// asking searches, and tells with the patterns what was asked.
func asking(n, most int, keep func([]int) bool) (told, asked []string) {
	for _, a := range part.Search(n, most, func(b []int) bool {
		asked = append(asked, text(b))
		return keep(b)
	}) {
		told = append(told, text(a))
	}
	return told, asked
}

// sieve is what a search must tell and ask, worked out from all patterns: their
// beginnings in order, less those with a beginning that is not kept.
func sieve(n, most int, keep func([]int) bool) (told, asked []string) {
	var whole [][]int
	seen := map[string]bool{}
	for _, a := range patterns(n) {
		ok := true
		for k := 1; k <= n && ok && len(whole) < most; k++ {
			ok = keep(a[:k])
			if !seen[text(a[:k])] {
				seen[text(a[:k])] = true
				asked = append(asked, text(a[:k]))
			}
		}
		if ok && len(whole) < most {
			whole = append(whole, a)
			told = append(told, text(a))
		}
	}
	return told, asked
}

// keeps are functions to search with.
func keeps() []func([]int) bool {
	last := func(a []int) int { return a[len(a)-1] }
	return []func([]int) bool{
		func([]int) bool { return true },
		func([]int) bool { return false },
		func(a []int) bool { return last(a) != 1 },
		func(a []int) bool { return slices.Max(a) < 2 },
		func(a []int) bool { return len(a) < 3 || last(a) == 0 },
		func(a []int) bool { return len(a) < 4 },
		func(a []int) bool { return len(a) < 2 || a[len(a)-2] != last(a) },
		func(a []int) bool { return last(a)*7%3 != len(a)%3 },
	}
}

// P2.9

func TestSearchTellsAndAsksWhatItMust(t *testing.T) {
	for n := range 7 {
		bell, _ := part.Bell(n)
		for k, keep := range keeps() {
			for most := 1; most <= int(bell)+2; most++ {
				told, asked := asking(n, most, keep)
				wantTold, wantAsked := sieve(n, most, keep)
				if !slices.Equal(told, wantTold) || !slices.Equal(asked, wantAsked) {
					t.Fatalf("Search(%d, %d), keep %d: %q, asked %q; not %q, %q", n, most, k, told, asked, wantTold, wantAsked)
				}
			}
		}
	}
}

func TestSearchOfNothingAsksNothing(t *testing.T) {
	always := func([]int) bool { return true }
	for _, x := range [][2]int{{3, 0}, {3, -1}, {3, math.MinInt}, {0, 0}, {0, -1}, {13, 9}, {25, 1}, {-1, 9}, {math.MinInt, 9}, {math.MaxInt, 9}, {13, 0}} {
		if told, asked := asking(x[0], x[1], always); len(told) != 0 || len(asked) != 0 {
			t.Errorf("Search(%d, %d): %q, asked %q", x[0], x[1], told, asked)
		}
		if told := part.Search(x[0], x[1], nil); len(told) != 0 {
			t.Errorf("Search(%d, %d, nil): %v", x[0], x[1], told)
		}
	}
}

func TestSearchOfNoPlaces(t *testing.T) {
	for _, most := range []int{1, 2, 9, math.MaxInt} {
		told, asked := asking(0, most, func([]int) bool { return false })
		if len(told) != 1 || told[0] != "" || len(asked) != 0 {
			t.Errorf("Search(0, %d): %q, asked %q", most, told, asked)
		}
		if l := part.Search(0, most, nil); len(l) != 1 || len(l[0]) != 0 {
			t.Errorf("Search(0, %d, nil): %v", most, l)
		}
	}
}

func TestSearchWithoutAFunctionKeepsAll(t *testing.T) {
	for n := range 8 {
		all := patterns(n)
		for _, most := range []int{1, 2, len(all) - 1, len(all), len(all) + 1, math.MaxInt} {
			want := all[:max(0, min(most, len(all)))]
			if told := part.Search(n, most, nil); !slices.EqualFunc(told, want, slices.Equal[[]int]) {
				t.Errorf("Search(%d, %d, nil) tells %d", n, most, len(told))
			}
		}
	}
}

func TestSearchTellsAtMostMaxCount(t *testing.T) {
	for _, n := range []int{10, 11, 12} {
		for _, most := range []int{api.MaxCount - 1, api.MaxCount, api.MaxCount + 1, 1 << 40, math.MaxInt} {
			count := 0
			told := part.Search(n, most, func(b []int) bool {
				if len(b) == n {
					count++
				}
				return true
			})
			want := min(most, api.MaxCount)
			if len(told) != want || count != want {
				t.Fatalf("Search(%d, %d) tells %d and asks of %d patterns, not %d", n, most, len(told), count, want)
			}
			if rank, err := part.Rank(told[want-1]); rank != uint64(want-1) || err != api.OK {
				t.Errorf("Search(%d, %d), the last: %v", n, most, told[want-1])
			}
		}
	}
	if told := part.Search(9, math.MaxInt, nil); len(told) != 21147 {
		t.Error("Search(9) tells", len(told))
	}
}

// The function may answer by what it was asked before: it is asked once of each beginning.
func TestSearchAsksOnce(t *testing.T) {
	turn := 0
	seen := map[string]int{}
	part.Search(6, math.MaxInt, func(b []int) bool {
		seen[text(b)]++
		turn++
		return turn%3 != 0
	})
	for b, times := range seen {
		if times != 1 {
			t.Errorf("asked %d times of %s", times, b)
		}
		for i := range len(b) {
			if b[i] == ' ' && seen[b[:i]] == 0 {
				t.Errorf("asked of %s, and not of %s", b, b[:i])
			}
		}
	}
}

func TestSearchOfTwelvePlacesThatKeepsOneBlock(t *testing.T) {
	told, asked := asking(12, 5, func(b []int) bool { return slices.Max(b) == 0 })
	if len(told) != 1 || told[0] != strings.TrimSpace(strings.Repeat("0 ", 12)) || len(asked) != 23 {
		t.Errorf("Search(12): %q, asked %q", told, asked)
	}
}

func TestRunsOfSearch(t *testing.T) {
	notOne := func(b []int) bool { return b[len(b)-1] != 1 }
	for _, x := range []struct {
		n, most     int
		told, asked []string
	}{
		{3, 9, []string{"0 0 0"}, []string{"0", "0 0", "0 0 0", "0 0 1", "0 1"}},
		{3, 1, []string{"0 0 0"}, []string{"0", "0 0", "0 0 0"}},
		{3, 0, nil, nil},
		{0, 9, []string{""}, nil},
	} {
		if told, asked := asking(x.n, x.most, notOne); !slices.Equal(told, x.told) || !slices.Equal(asked, x.asked) {
			t.Errorf("Search(%d, %d): %q, asked %q", x.n, x.most, told, asked)
		}
	}
	if l := part.Search(13, 9, nil); len(l) != 0 {
		t.Error("Search(13, 9, nil):", l)
	}
	if l := part.Search(3, 9, nil); len(l) != 5 {
		t.Error("Search(3, 9, nil):", l)
	}
}
