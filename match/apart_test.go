package match_test

import (
	"slices"
	"testing"

	"provost/match"
)

// R2: rows that are handed in stay as they are, their spare room too, and are not
// kept; what is told is the caller's own, its spare room too.

const mark = 77

// roomy are the rows with spare room that is marked.
func roomy(m model) model {
	room := append(slices.Clone(m), mark, mark, mark)
	return room[:len(m)]
}

// spoil writes into a list and into its spare room.
func spoil[T any](l []T, with T) {
	l = l[:cap(l)]
	for i := range l {
		l[i] = with
	}
}

// several are rows with and without a full matching, one row too many among them.
func several() []model {
	return append(long(), model{}, alike(12, ^uint64(0)), alike(12, below(11)), alike(13, ^uint64(0)), rows(p{0, 1}, p{0}), rows(p{5}, p{5}, p{}))
}

// lists are the calls that tell a list.
func lists() []func([]uint64) []int {
	return []func([]uint64) []int{
		match.Short,
		func(rows []uint64) []int {
			l, _ := match.Least(rows)
			return l
		},
	}
}

func TestRowsStay(t *testing.T) {
	for _, m := range several() {
		given := roomy(m)
		match.Least(given)
		match.Size(given)
		for i := range given {
			match.Free(given, i)
		}
		match.Short(given)
		match.Count(given, 9)
		if !slices.Equal(given[:len(m)+3], append(slices.Clone(m), mark, mark, mark)) {
			t.Fatalf("%x have become %x", m, given[:len(m)+3])
		}
	}
}

func TestRowsAreNotKept(t *testing.T) {
	for _, m := range several() {
		for _, call := range lists() {
			given := roomy(m)
			list := call(given)
			want := slices.Clone(list)
			spoil(given, 9)
			if !slices.Equal(list, want) {
				t.Fatalf("%x: a list hangs on rows that were changed: %v, not %v", m, list, want)
			}
		}
	}
}

func TestListsAreTheCallersOwn(t *testing.T) {
	for _, call := range lists() {
		var kept, copies [][]int
		for _, m := range several() {
			first, second := call(m), call(m)
			want := slices.Clone(first)
			spoil(first, -9)
			if third := call(m); !slices.Equal(second, want) || !slices.Equal(third, want) {
				t.Fatalf("%x: spoilt with another answer: %v, %v; not %v", m, second, third, want)
			}
			kept, copies = append(kept, second), append(copies, want)
		}
		for i, l := range kept {
			if !slices.Equal(l, copies[i]) {
				t.Errorf("a list that was told has become %v, from %v", l, copies[i])
			}
		}
	}
}

// R4: what was asked before is not to be seen in an answer.
func TestAnswersHangOnTheRowsAlone(t *testing.T) {
	all := drawn()
	for i, m := range all {
		other := all[(i*31+7)%len(all)]
		least, is := match.Least(m)
		size, short, count := match.Size(m), match.Short(m), match.Count(m, 99)
		check(t, other)
		again, same := match.Least(m)
		if !slices.Equal(again, least) || same != is || match.Size(m) != size || !slices.Equal(match.Short(m), short) || match.Count(m, 99) != count {
			t.Fatalf("%x: not the same behind %x", m, other)
		}
	}
}
