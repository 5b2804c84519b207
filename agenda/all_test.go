package agenda_test

import (
	"iter"
	"slices"
	"testing"

	"provost/agenda"
)

// P4.4

// some ranges until it has that many, and ends the range.
func some(all iter.Seq2[int, int], most int) []pair {
	var l []pair
	for id, at := range all {
		if len(l) == most {
			break
		}
		l = append(l, pair{id, at})
	}
	return l
}

func TestAllEndedInTheMidst(t *testing.T) {
	a, m := of(several()...)
	all, want := a.All(), m.all()
	for most := range len(want) + 2 {
		if got := some(all, most); !slices.Equal(got, want[:min(most, len(want))]) {
			t.Errorf("ended behind %d: %v", most, got)
		}
		check(t, a, m)
	}
	if got := some(agenda.New().All(), 3); len(got) != 0 {
		t.Error("of nothing:", got)
	}
}

// A body that has ended the range is not asked again.
func TestAllAsksNoMoreBehindTheEnd(t *testing.T) {
	a, _ := of(several()...)
	for end := 1; end <= len(several()); end++ {
		asked := 0
		a.All()(func(int, int) bool {
			asked++
			return asked < end
		})
		if asked != end {
			t.Errorf("ended at %d, asked %d times", end, asked)
		}
	}
}

// A second range over one and the same value begins anew, with what stands then.
func TestAllRangedOverAgain(t *testing.T) {
	a, m := agenda.New(), &model{}
	all := a.All() // made ahead of all entries
	for i, c := range rows()[1] {
		do(t, a, m, c)
		if i%7 == 0 {
			some(all, i%5)
		}
		for range 2 {
			if got := some(all, a.Len()); !slices.Equal(got, m.all()) {
				t.Fatalf("behind %d calls: %v, not %v", i+1, got, m.all())
			}
		}
	}
}

func TestAllInAll(t *testing.T) {
	a, m := of(several()...)
	all, want := a.All(), m.all()
	var outer []pair
	for id, at := range all {
		outer = append(outer, pair{id, at})
		if got := some(all, len(want)); !slices.Equal(got, want) {
			t.Errorf("inside at %d: %v", id, got)
		}
	}
	if !slices.Equal(outer, want) {
		t.Error("outside:", outer)
	}
}

// bodies are what the body of a range may do with its agenda, at its i-th entry.
func bodies() []func(i int, e pair) []call {
	return []func(int, pair) []call{
		func(_ int, e pair) []call { return []call{{toDrop, e.id, 0}} },
		func(_ int, e pair) []call { return []call{{toSet, e.id, e.at}} },
		func(_ int, e pair) []call { return []call{{toSet, e.id, 5 - e.at%100}} },
		func(i int, _ pair) []call { return []call{{toSet, 100 + i, -1000}, {toSet, 200 + i, 1000}} },
		func(_ int, e pair) []call { return []call{{toDue, e.at, 1}} },
		func(_ int, e pair) []call { return []call{{toDue, e.at, 100}} },
		func(int, pair) []call { return []call{{toDue, 1 << 62, 100}, {toSet, 1, 1}, {toSet, 2, 1}} },
		func(i int, _ pair) []call { return rowOfCalls(i+40, 30, 50, 10) },
		func(i int, _ pair) []call {
			var l []call
			for _, e := range several() { // all that is still to be told, told otherwise
				l = append(l, call{toSet, e.id, i}, call{toDrop, e.id, 0}, call{toSet, e.id, -i})
			}
			return l
		},
	}
}

func TestAllWithABodyThatChangesTheAgenda(t *testing.T) {
	for k, body := range bodies() {
		for end := range len(several()) + 1 { // where the range is ended
			a, m := of(several()...)
			want := m.all()[:end]
			var got []pair
			for id, at := range a.All() {
				if len(got) == end {
					break
				}
				e := pair{id, at}
				for _, c := range body(len(got), e) {
					do(t, a, m, c)
				}
				got = append(got, e)
				check(t, a, m)
			}
			if !slices.Equal(got, want) {
				t.Errorf("body %d, ended behind %d: %v, not %v", k, end, got, want)
			}
			check(t, a, m)
		}
	}
}

// Rows of calls, one between each two entries that a range tells.
func TestAllAmidRowsOfCalls(t *testing.T) {
	for _, row := range rows() {
		a, m := after(t, row[:100])
		left := row[100:]
		for len(left) > 0 && a.Len() > 0 {
			want := m.all()
			var got []pair
			for id, at := range a.All() {
				got = append(got, pair{id, at})
				if len(left) > 0 {
					do(t, a, m, left[0])
					left = left[1:]
				}
			}
			if !slices.Equal(got, want) {
				t.Fatalf("a range told %v, not %v", got, want)
			}
			check(t, a, m)
		}
	}
}

// Ranges that stand side by side tell what stood when each began.
func TestAllSideBySide(t *testing.T) {
	a, m := of(several()...)
	first := m.all()
	next, stop := iter.Pull2(a.All())
	defer stop()
	var got []pair
	take := func() {
		if id, at, ok := next(); ok {
			got = append(got, pair{id, at})
		}
	}
	take()
	do(t, a, m, call{toDue, 1, 3})
	do(t, a, m, call{toSet, 50, 1})
	second := m.all()
	for id, at := range a.All() {
		if (pair{id, at}) != second[0] {
			t.Errorf("the second range: %d, %d, not %v", id, at, second[0])
		}
		second = second[1:]
		take()
		do(t, a, m, call{toDrop, id, 0})
	}
	for range first {
		take()
	}
	if !slices.Equal(got, first) || len(second) != 0 {
		t.Errorf("the first range: %v, not %v; left of the second: %v", got, first, second)
	}
	check(t, a, &model{})
}
