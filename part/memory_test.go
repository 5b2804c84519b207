package part_test

import (
	"slices"
	"testing"

	"provost/part"
)

// R2: what is told is the caller's own, its spare room too; what is handed in stays as it is.

// spoil writes into a row and into its spare room.
func spoil(a []int) {
	a = a[:cap(a)]
	for i := range a {
		a[i] = 9
	}
}

// roomy is a row with spare room that is marked.
func roomy(a []int) []int {
	room := append(slices.Clone(a), 77, 78, 79)
	return room[:len(a)]
}

// wholeRoom: does the row still stand, and its marks behind it?
func wholeRoom(a, want []int) bool {
	return slices.Equal(a[:len(a)+3], append(slices.Clone(want), 77, 78, 79))
}

// calls are the calls that take a row, or two, and tell rows.
func calls() map[string]func(a, b []int) [][]int {
	one := func(a []int, _ any) [][]int { return [][]int{a} }
	return map[string]func(a, b []int) [][]int{
		"Next": func(a, _ []int) [][]int { return one(part.Next(a)) },
		"Prev": func(a, _ []int) [][]int { return one(part.Prev(a)) },
		"Of":   func(a, _ []int) [][]int { return one(part.Of(a)) },
		"Meet": func(a, b []int) [][]int { return one(part.Meet(a, b)) },
		"Join": func(a, b []int) [][]int { return one(part.Join(a, b)) },
		"Merge": func(a, _ []int) [][]int {
			return append(one(part.Merge(a, 0, 0)), one(part.Merge(a, 0, len(a)-1))...)
		},
		"Blocks": func(a, _ []int) [][]int { return part.Blocks(a) },
		"Legal, Rank, Size, Finer": func(a, b []int) [][]int {
			part.Rank(a)
			part.Legal(a)
			part.Size(a)
			part.Finer(a, b)
			return nil
		},
		"First": func(a, _ []int) [][]int { return one(part.First(len(a))) },
		"Last":  func(a, _ []int) [][]int { return one(part.Last(len(a))) },
		"At":    func(a, _ []int) [][]int { return one(part.At(len(a), 1)) },
		"Search": func(a, _ []int) [][]int {
			return part.Search(len(a), 9, nil)
		},
		"All": func(a, _ []int) [][]int { return slices.Collect(part.All(len(a))) },
	}
}

func TestRowsThatAreToldAreTheCallersOwn(t *testing.T) {
	for name, call := range calls() {
		for _, a := range patterns(4) {
			for _, b := range [][]int{a, {0, 0, 1, 1}, {0, 0, 0, 0}} {
				first, second := roomy(a), roomy(b)
				want := call(slices.Clone(a), slices.Clone(b))
				got, again := call(first, second), call(first, second)
				checkApart(t, name, got, want)
				for i := range got {
					if !slices.Equal(again[i], want[i]) {
						t.Errorf("%s(%v, %v), asked twice: %v, not %v", name, a, b, again, want)
					}
				}
				if !wholeRoom(first, a) || !wholeRoom(second, b) {
					t.Errorf("%s(%v, %v) changed what it was handed: %v, %v", name, a, b, first[:7], second[:7])
				}
			}
		}
	}
}

// checkApart spoils the rows of an answer one by one: the others stay.
func checkApart(t *testing.T, name string, got, want [][]int) {
	t.Helper()
	for i := range got {
		if !slices.Equal(got[i], want[i]) {
			t.Errorf("%s: row %d is %v, not %v", name, i, got[i], want[i])
		}
		spoil(got[i])
	}
}

// The list of rows is the caller's own too.
func TestListsThatAreToldAreTheCallersOwn(t *testing.T) {
	for _, list := range []func() [][]int{
		func() [][]int { return part.Blocks([]int{0, 1, 0, 2, 1}) },
		func() [][]int { return part.Search(4, 7, nil) },
	} {
		l := list()
		clear(l[:cap(l)])
		if again := list(); slices.ContainsFunc(again, func(a []int) bool { return len(a) == 0 }) {
			t.Error("a list was told twice:", again)
		}
	}
}

// Rows of wrong forms stay as they are too.
func TestWrongRowsStay(t *testing.T) {
	for name, call := range calls() {
		if name == "Search" || name == "All" {
			continue
		}
		for _, a := range broken() {
			row := roomy(a)
			call(row, row)
			if !wholeRoom(row, a) {
				t.Errorf("%s(%v) changed it: %v", name, a, row)
			}
		}
	}
}

// A beginning that is handed to keep tells nothing of what comes behind it, and
// patterns that were told stay while the search goes on.
func TestSearchHandsOutNoSpareRoom(t *testing.T) {
	part.Search(5, 1000, func(b []int) bool {
		if cap(b) != len(b) {
			t.Fatalf("a beginning of %d has room for %d", len(b), cap(b))
		}
		return true
	})
}
