package match_test

import (
	"slices"
	"testing"

	"provost/match"
)

// A row has a place in some full matching just if the other rows fit without it.
func TestFreeOfManyRows(t *testing.T) {
	for _, m := range long() {
		for i, w := range m {
			var want uint64
			others := slices.Delete(slices.Clone(m), i, i+1)
			for u := range 64 {
				if w>>u&1 == 1 && without(others, u).fits() {
					want |= 1 << u
				}
			}
			if got := match.Free(m, i); got != want {
				t.Fatalf("%x: Free(%d): %x, not %x", m, i, got, want)
			}
		}
	}
}

func TestFreeOfEdges(t *testing.T) {
	wide, narrow := alike(12, ^uint64(0)), alike(12, below(12)<<52)
	tight := append(alike(6, below(6)), alike(6, ^uint64(0))...)
	for i := range 12 {
		if match.Free(wide, i) != ^uint64(0) || match.Free(narrow, i) != below(12)<<52 {
			t.Errorf("rows alike: Free(%d): %x, %x", i, match.Free(wide, i), match.Free(narrow, i))
		}
		want := below(6)
		if i >= 6 {
			want = ^below(6)
		}
		if got := match.Free(tight, i); got != want {
			t.Errorf("six rows with six places: Free(%d): %x, not %x", i, got, want)
		}
	}
	if got := match.Free(alike(12, below(11)), 3); got != 0 {
		t.Errorf("twelve rows with eleven places: Free: %x", got)
	}
}

// What a row is told is what Least finds for it when it may have nothing else.
func TestFreeIsWhatARowCanHaveAlone(t *testing.T) {
	for _, m := range append(drawn(), long()...) {
		for i, w := range m {
			free := match.Free(m, i)
			for u := range 64 {
				alone := slices.Clone(m)
				alone[i] = w & (1 << u)
				if _, is := match.Least(alone); is != (free>>u&1 == 1) {
					t.Fatalf("%x: row %d with place %d alone: %v; Free: %x", m, i, u, is, free)
				}
			}
		}
	}
}
