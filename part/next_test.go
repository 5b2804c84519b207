package part_test

import (
	"slices"
	"testing"

	"provost/part"
)

// P2.3, P2.10: Next and Prev, there and back, and their ends.

func TestNextAndPrevOfAllPatterns(t *testing.T) {
	for n := range 8 {
		all := patterns(n)
		for i, a := range all {
			checkStep(t, "Next", part.Next, a, all, i+1)
			checkStep(t, "Prev", part.Prev, a, all, i-1)
			if prev, ok := part.Prev(a); ok {
				if back, ok := part.Next(prev); !ok || !slices.Equal(back, a) {
					t.Errorf("Next(Prev(%v)): %v, %v", a, back, ok)
				}
			}
		}
	}
}

// checkStep holds one step from a against the pattern of that number, if there is one.
func checkStep(t *testing.T, what string, step func([]int) ([]int, bool), a []int, all [][]int, to int) {
	t.Helper()
	got, ok := step(a)
	if to < 0 || to >= len(all) {
		if ok || len(got) != 0 {
			t.Errorf("%s(%v): %v, %v", what, a, got, ok)
		}
		return
	}
	if !ok || !slices.Equal(got, all[to]) {
		t.Errorf("%s(%v): %v, %v, not %v", what, a, got, ok, all[to])
	}
}

func TestNextAndPrevOfLongPatterns(t *testing.T) {
	first, _ := part.First(25)
	second := slices.Clone(first)
	second[24] = 1
	last, _ := part.Last(25)
	ahead := slices.Clone(last)
	ahead[24] = 23
	ends := [][]int{first, second}
	for i, a := range ends {
		checkStep(t, "Prev", part.Prev, a, ends, i-1)
	}
	checkStep(t, "Next", part.Next, first, ends, 1)
	ends = [][]int{ahead, last}
	for i, a := range ends {
		checkStep(t, "Next", part.Next, a, ends, i+1)
	}
	checkStep(t, "Prev", part.Prev, last, ends, 0)
}

func TestNextAndPrevOfNoPatterns(t *testing.T) {
	for _, a := range broken() {
		if got, ok := part.Next(a); ok || len(got) != 0 {
			t.Errorf("Next(%v): %v, %v", a, got, ok)
		}
		if got, ok := part.Prev(a); ok || len(got) != 0 {
			t.Errorf("Prev(%v): %v, %v", a, got, ok)
		}
	}
}

func TestRunsOfNext(t *testing.T) {
	for _, x := range []struct {
		a    []int
		want string
		ok   bool
	}{{[]int{0, 0, 0}, "0 0 1", true}, {[]int{0, 0, 1}, "0 1 0", true}, {[]int{0, 1, 2}, "", false}, {nil, "", false}} {
		if got, ok := part.Next(x.a); ok != x.ok || text(got) != x.want {
			t.Errorf("Next(%v): %v, %v", x.a, got, ok)
		}
	}
}

// P2.8

func TestAllTellsAllPatternsInTheirOrder(t *testing.T) {
	for n := range 9 {
		i, all := 0, patterns(n)
		for a := range part.All(n) {
			if i >= len(all) || !slices.Equal(a, all[i]) {
				t.Fatalf("All(%d), number %d: %v", n, i, a)
			}
			i++
		}
		if i != len(all) {
			t.Errorf("All(%d) tells %d, not %d", n, i, len(all))
		}
	}
}

func TestAllOfWrongNumbers(t *testing.T) {
	for _, n := range wrongNumbers() {
		for a := range part.All(n) {
			t.Fatalf("All(%d) tells %v", n, a)
		}
	}
}

func TestAllOfManyPlacesBegins(t *testing.T) {
	for n := 9; n <= 25; n++ {
		var told [][]int
		for a := range part.All(n) {
			if told = append(told, a); len(told) == 3 {
				break
			}
		}
		for i, a := range told {
			want, _ := part.At(n, uint64(i))
			wantRow(t, "All", a, text(want))
		}
	}
}

func TestAllEndedInTheMidstAndRangedOverTwice(t *testing.T) {
	all := part.All(4)
	want := patterns(4)
	for stop := 1; stop <= len(want); stop++ {
		var told [][]int
		for a := range all {
			if told = append(told, a); len(told) == stop {
				break
			}
		}
		if !slices.EqualFunc(told, want[:stop], slices.Equal[[]int]) {
			t.Errorf("All(4), ended behind %d: %v", stop, told)
		}
	}
	pairs := 0
	for range all {
		for range all {
			pairs++
		}
	}
	if pairs != len(want)*len(want) {
		t.Error("a range within a range:", pairs)
	}
}

func TestRowsOfAllAreTheBodysOwn(t *testing.T) {
	want := patterns(5)
	var told [][]int
	for a := range part.All(5) {
		if !slices.Equal(a, want[len(told)]) {
			t.Fatalf("All(5) behind changes: %v, not %v", a, want[len(told)])
		}
		spoil(a)
		told = append(told, a)
	}
	for _, a := range told {
		if !slices.Equal(a, []int{9, 9, 9, 9, 9}) {
			t.Fatal("a row that was told has changed:", a)
		}
	}
}

func TestRunOfAll(t *testing.T) {
	var told []string
	for a := range part.All(3) {
		told = append(told, text(a))
	}
	if !slices.Equal(told, []string{"0 0 0", "0 0 1", "0 1 0", "0 1 1", "0 1 2"}) {
		t.Error("All(3):", told)
	}
}
