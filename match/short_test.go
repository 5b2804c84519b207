package match_test

import (
	"slices"
	"testing"

	"provost/match"
)

func TestShort(t *testing.T) {
	for _, x := range []struct {
		m    model
		want []int
	}{
		// Fewest rows come first, whatever their numbers are.
		{rows(p{0}, p{0}, p{}), p{2}},
		{rows(p{0, 1}, p{0, 1}, p{0, 1}, p{5}, p{5}), p{3, 4}},
		// Of as many rows the first list: [0 3] comes ahead of [1 2], though its word is above.
		{rows(p{7}, p{8}, p{8}, p{7}), p{0, 3}},
		{rows(p{1, 2, 3}, p{7}, p{8, 9}, p{9}, p{9}, p{7}), p{1, 5}},
		{rows(p{0, 1}, p{2, 3}, p{2, 3}, p{2, 3}, p{0, 1}, p{0, 1}), p{0, 4, 5}},
		{rows(p{}, p{}), p{0}},
		{rows(p{0}, p{}, p{}), p{1}},
		{rows(p{63}, p{62}, p{63}, p{62}), p{0, 2}},
		{alike(12, 0), p{0}},
		{alike(12, 1<<63), p{0, 1}},
		{alike(12, below(11)), p{0, 1, 2, 3, 4, 5, 6, 7, 8, 9, 10, 11}},
		{alike(12, below(5)<<59), p{0, 1, 2, 3, 4, 5}},
		{append(alike(10, ^uint64(0)), 2, 2), p{10, 11}},
		{alike(12, below(12)), nil},
		{alike(12, ^uint64(0)), nil},
	} {
		if got := match.Short(x.m); !slices.Equal(got, x.want) {
			t.Errorf("%x: Short: %v, not %v", x.m, got, x.want)
		}
	}
}

func TestShortOfManyRows(t *testing.T) {
	for _, m := range long() {
		if got, want := match.Short(m), m.short(); !slices.Equal(got, want) {
			t.Fatalf("%x: Short: %v, not %v", m, got, want)
		}
	}
}

// P11.6: all calls say the same of whether there is a full matching.
func TestCallsAgree(t *testing.T) {
	for _, m := range append(drawn(), long()...) {
		_, is := match.Least(m)
		if is != (len(match.Short(m)) == 0) || is != (match.Size(m) == len(m)) || is != (match.Count(m, 1) == 1) {
			t.Fatalf("%x: Least %v, Short %v, Size %d, Count %d", m, is, match.Short(m), match.Size(m), match.Count(m, 1))
		}
		for i := range m {
			if is != (match.Free(m, i) != 0) {
				t.Fatalf("%x: Least %v, Free(%d) %x", m, is, i, match.Free(m, i))
			}
		}
	}
}

// P11.6: of the rows that Short tells each one is needed: the others fit, and all of
// them may have just one place too few.
func TestWhatIsShortIsShortByOne(t *testing.T) {
	for _, m := range append(drawn(), long()...) {
		short := m.picked(match.Short(m))
		if len(short) > 0 && short.reach() != len(short)-1 {
			t.Fatalf("%x: Short %v: %d places", m, match.Short(m), short.reach())
		}
		for i := range short {
			others := slices.Delete(slices.Clone(short), i, i+1)
			if _, is := match.Least(others); !is || match.Size(others) != len(others) {
				t.Fatalf("%x: Short %v: no place for each of %x", m, match.Short(m), others)
			}
		}
	}
}
