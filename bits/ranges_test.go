package bits_test

import (
	"iter"
	"math"
	mathbits "math/bits"
	"slices"
	"testing"

	"provost/bits"
)

// subsetsOf are the subsets of a word of at most 16 numbers, rising, built by doubling.
func subsetsOf[W bits.Word](w W) []W {
	l := []W{0}
	for _, i := range numbers(w) {
		for _, x := range slices.Clone(l) {
			l = append(l, x|W(1)<<i)
		}
	}
	return l
}

// few are words to go through the subsets of: of at most eight numbers.
func few[W bits.Word]() []W {
	var l []W
	for _, w := range words[W]() {
		for mathbits.OnesCount64(uint64(w)) > 8 {
			w &= w - 1
		}
		l = append(l, w)
	}
	return append(l, ^W(0)&0xf, ^W(0)-^W(0)>>6)
}

// collect is what a range tells.
func collect[T any](seq iter.Seq[T]) []T {
	var l []T
	for x := range seq {
		l = append(l, x)
	}
	return l
}

func setWords[W bits.Word](l []bits.Set[W]) []W {
	var out []W
	for _, s := range l {
		out = append(out, s.Word())
	}
	return out
}

// P1.5

func TestAllAndDown(t *testing.T) {
	inAll(t, checkAllAndDown[uint8], checkAllAndDown[uint16], checkAllAndDown[uint32], checkAllAndDown[uint64], checkAllAndDown[mark])
}

func checkAllAndDown[W bits.Word](t *testing.T) {
	for _, w := range words[W]() {
		rising := numbers(w)
		falling := slices.Clone(rising)
		slices.Reverse(falling)
		checkRange(t, of(w).All(), rising)
		checkRange(t, of(w).Down(), falling)
	}
}

func TestSubsets(t *testing.T) {
	inAll(t, checkSubsets[uint8], checkSubsets[uint16], checkSubsets[uint32], checkSubsets[uint64], checkSubsets[mark])
}

func checkSubsets[W bits.Word](t *testing.T) {
	for _, w := range few[W]() {
		want := subsetsOf(w)
		if got := setWords(collect(of(w).Subsets())); !slices.Equal(got, want) {
			t.Fatalf("%#x.Subsets: %#x, not %#x", w, got, want)
		}
		for _, k := range ints(9) {
			var chosen []W
			for _, x := range want {
				if mathbits.OnesCount64(uint64(x)) == k {
					chosen = append(chosen, x)
				}
			}
			if got := setWords(collect(of(w).Choose(k))); !slices.Equal(got, chosen) {
				t.Fatalf("%#x.Choose(%d): %#x, not %#x", w, k, got, chosen)
			}
		}
	}
}

func TestSubsetsRuns(t *testing.T) {
	for _, x := range []struct {
		what string
		got  iter.Seq[bits.Set[uint8]]
		want []string
	}{
		{"5", of[uint8](5).Subsets(), []string{"{}", "{0}", "{2}", "{0,2}"}},
		{"none", of[uint8](0).Subsets(), []string{"{}"}},
		{"2 of 13", of[uint8](13).Choose(2), []string{"{0,2}", "{0,3}", "{2,3}"}},
		{"all of 13", of[uint8](13).Choose(3), []string{"{0,2,3}"}},
		{"one more than all of 13", of[uint8](13).Choose(4), nil},
		{"0 of 5", of[uint8](5).Choose(0), []string{"{}"}},
		{"0 of none", of[uint8](0).Choose(0), []string{"{}"}},
		{"1 of none", of[uint8](0).Choose(1), nil},
		{"-1 of 5", of[uint8](5).Choose(-1), nil},
		{"9 of 5", of[uint8](5).Choose(9), nil},
	} {
		var got []string
		for s := range x.got {
			got = append(got, s.Text())
		}
		if !slices.Equal(got, x.want) {
			t.Errorf("%s: %v, not %v", x.what, got, x.want)
		}
	}
}

// A range ends where its body ends it, tells nothing behind that, and begins anew; two ranges over one iterator may stand within one another.
func TestRangesEndAndBeginAnew(t *testing.T) {
	inAll(t, checkRanges[uint8], checkRanges[uint16], checkRanges[uint32], checkRanges[uint64], checkRanges[mark])
}

func checkRanges[W bits.Word](t *testing.T) {
	for _, w := range []W{0, 1, 0b10010110, ^W(0) - ^W(0)>>4} {
		s := of(w)
		checkRange(t, s.All(), s.Places())
		checkRange(t, s.Subsets(), collect(s.Subsets()))
		for k := range s.Len() + 2 {
			checkRange(t, s.Choose(k), collect(s.Choose(k)))
		}
	}
}

func checkRange[T comparable](t *testing.T, seq iter.Seq[T], want []T) {
	t.Helper()
	for n := 1; n <= len(want); n++ {
		var got []T
		seq(func(x T) bool {
			got = append(got, x)
			return len(got) < n
		})
		if !slices.Equal(got, want[:n]) {
			t.Fatalf("ended behind %d: %v, not %v", n, got, want[:n])
		}
	}
	for range 2 {
		if got := collect(seq); !slices.Equal(got, want) {
			t.Fatalf("gone through: %v, not %v", got, want)
		}
	}
	for x := range seq {
		if got := collect(seq); !slices.Equal(got, want) {
			t.Fatalf("within a range, at %v: %v, not %v", x, got, want)
		}
	}
}

// Sets whose subsets nobody could go through tell their first ones at once, and few of many are not looked for among all.
func TestRangesOfTheFullSet(t *testing.T) {
	full := of(uint64(math.MaxUint64))
	n := uint64(0)
	for s := range full.Subsets() {
		if s.Word() != n {
			t.Fatalf("subset %d: %#x", n, s.Word())
		}
		if n++; n == 5000 {
			break
		}
	}
	last := uint64(0)
	n = 0
	for s := range full.Choose(32) {
		if s.Len() != 32 || s.Word() <= last {
			t.Fatalf("32 of 64: %#x behind %#x", s.Word(), last)
		}
		last = s.Word()
		if n++; n == 5000 {
			break
		}
	}
	for _, x := range []struct{ k, want int }{{0, 1}, {1, 64}, {2, 2016}, {3, 41664}, {61, 41664}, {62, 2016}, {63, 64}, {64, 1}, {65, 0}} {
		if got := len(collect(full.Choose(x.k))); got != x.want {
			t.Errorf("%d of 64: %d of them, not %d", x.k, got, x.want)
		}
	}
}

func TestPull(t *testing.T) {
	next, stop := iter.Pull(of[uint8](13).Subsets())
	defer stop()
	for _, w := range subsetsOf[uint8](13) {
		if s, ok := next(); !ok || s.Word() != w {
			t.Fatalf("%#x, %v; not %#x", s.Word(), ok, w)
		}
	}
	if _, ok := next(); ok {
		t.Error("more subsets than there are")
	}
}
