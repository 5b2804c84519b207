package bits_test

import (
	"math"
	"testing"

	"provost/api"
	"provost/bits"
)

// mark is a type of its own whose underlying type is a word's.
type mark uint16

func of[W bits.Word](w W) bits.Set[W] { return bits.Set[W]{}.Of(w) }

// widthOf counts by shifting, so as not to ask what is tested.
func widthOf[W bits.Word]() int {
	n := 0
	for w := ^W(0); w != 0; w >>= 1 {
		n++
	}
	return n
}

// in is the model that the tests hold sets against: one bool for each number.
func in[W bits.Word](w W) []bool {
	l := make([]bool, widthOf[W]())
	for i := range l {
		l[i] = w>>i&1 == 1
	}
	return l
}

// numbers are the numbers of a word, rising.
func numbers[W bits.Word](w W) []int {
	var l []int
	for i, is := range in(w) {
		if is {
			l = append(l, i)
		}
	}
	return l
}

// words are words to try: all of them, where there are few.
func words[W bits.Word]() []W {
	top := W(1) << (widthOf[W]() - 1)
	l := []W{0, ^W(0), 1, top, top | 1, top >> 1, ^W(0) >> 1, ^W(0) - 1, ^W(0) / 3, ^W(0) / 5, ^W(0) / 17}
	if widthOf[W]() == 8 {
		for w := range 256 {
			l = append(l, W(w))
		}
		return l
	}
	x := uint64(20261116)
	for range 120 {
		x = x*6364136223846793005 + 1442695040888963407
		l = append(l, W(x>>32|x<<32), W(x>>32|x<<32)&W(x))
	}
	return l
}

// ints are ints to try: all that are in bounds, the edges, and far ones.
func ints(width int) []int {
	l := []int{math.MinInt, math.MinInt + 1, -1 << 40, -256, -65, -64, -9, -8, -2, -1}
	for i := range width + 2 {
		l = append(l, i)
	}
	return append(l, 99, 255, 256, 1<<16, 1<<32, 1<<40, math.MaxInt-1, math.MaxInt)
}

// inAll runs a check in words of all widths, and in a named one.
func inAll(t *testing.T, in8, in16, in32, in64, named func(*testing.T)) {
	t.Run("uint8", in8)
	t.Run("uint16", in16)
	t.Run("uint32", in32)
	t.Run("uint64", in64)
	t.Run("mark", named)
}

// P1.1

func TestWords(t *testing.T) {
	inAll(t, checkWords[uint8], checkWords[uint16], checkWords[uint32], checkWords[uint64], checkWords[mark])
	if a, b, c, d, e := of[uint8](0).Width(), of[uint16](0).Width(), of[uint32](0).Width(), of[uint64](0).Width(), of[mark](0).Width(); a != 8 || b != 16 || c != 32 || d != 64 || e != 16 {
		t.Error("Width:", a, b, c, d, e)
	}
}

func checkWords[W bits.Word](t *testing.T) {
	var zero bits.Set[W]
	if zero.Word() != 0 || zero.Len() != 0 || zero != of[W](0) {
		t.Error("the zero value is not the empty set")
	}
	for _, w := range words[W]() {
		if got := zero.Of(w).Word(); got != w {
			t.Errorf("Of(%#x).Word: %#x", w, got)
		}
		if got := of(^w).Of(w); got != of(w) {
			t.Errorf("Of(%#x) looks at what it is called on: %#x", w, got.Word())
		}
		if got := of(w).Width(); got != widthOf[W]() {
			t.Errorf("Width of %#x: %d", w, got)
		}
	}
}

// P1.2

func TestOneNumber(t *testing.T) {
	inAll(t, checkOneNumber[uint8], checkOneNumber[uint16], checkOneNumber[uint32], checkOneNumber[uint64], checkOneNumber[mark])
}

func checkOneNumber[W bits.Word](t *testing.T) {
	width := widthOf[W]()
	for _, w := range words[W]() {
		s, model := of(w), in(w)
		for _, i := range ints(width) {
			fits := 0 <= i && i < width
			has, with, without, e := false, W(0), w, api.ErrArg
			if fits {
				has, with, without, e = model[i], w|W(1)<<i, w&^(W(1)<<i), api.OK
			}
			if got := s.Has(i); got != has {
				t.Errorf("%#x.Has(%d): %v", w, i, got)
			}
			if got, err := s.With(i); got.Word() != with || err != e {
				t.Errorf("%#x.With(%d): %#x, %v; not %#x, %v", w, i, got.Word(), err, with, e)
			}
			if got := s.Without(i); got.Word() != without {
				t.Errorf("%#x.Without(%d): %#x, not %#x", w, i, got.Word(), without)
			}
			if s.Word() != w {
				t.Fatalf("%#x was changed to %#x by calls of %d", w, s.Word(), i)
			}
		}
	}
}

// P1.3

func TestTwoSets(t *testing.T) {
	inAll(t, checkTwoSets[uint8], checkTwoSets[uint16], checkTwoSets[uint32], checkTwoSets[uint64], checkTwoSets[mark])
	a, b := of[uint8](5), of[uint8](2)
	if a.Or(b).Text() != "{0,1,2}" || a.Cmp(b) != 1 || b.Cmp(a) != -1 || a.Cmp(a) != 0 {
		t.Error("the chapter's examples:", a.Or(b).Text(), a.Cmp(b), b.Cmp(a), a.Cmp(a))
	}
	if got := of[uint8](0).Not().Text(); got != "{0,1,2,3,4,5,6,7}" {
		t.Error("Not of the empty set:", got)
	}
}

func checkTwoSets[W bits.Word](t *testing.T) {
	for _, v := range words[W]() {
		for _, w := range words[W]() {
			checkPair(t, v, w)
		}
	}
}

func checkPair[W bits.Word](t *testing.T, v, w W) {
	a, b := in(v), in(w)
	var and, or, minus, xor, not W
	sub, meets := true, false
	for i := range a {
		bit := W(1) << i
		if a[i] && b[i] {
			and, meets = and|bit, true
		}
		if a[i] || b[i] {
			or |= bit
		}
		if a[i] && !b[i] {
			minus, sub = minus|bit, false
		}
		if a[i] != b[i] {
			xor |= bit
		}
		if !a[i] {
			not |= bit
		}
	}
	order := 0
	if v < w {
		order = -1
	} else if v > w {
		order = 1
	}
	s, u := of(v), of(w)
	if s.And(u).Word() != and || s.Or(u).Word() != or || s.Minus(u).Word() != minus || s.Xor(u).Word() != xor || s.Not().Word() != not {
		t.Errorf("%#x and %#x: And %#x, Or %#x, Minus %#x, Xor %#x, Not %#x", v, w, s.And(u).Word(), s.Or(u).Word(), s.Minus(u).Word(), s.Xor(u).Word(), s.Not().Word())
	}
	if s.Sub(u) != sub || s.Meets(u) != meets || s.Cmp(u) != order {
		t.Errorf("%#x and %#x: Sub %v, Meets %v, Cmp %d", v, w, s.Sub(u), s.Meets(u), s.Cmp(u))
	}
	if s.Word() != v || u.Word() != w {
		t.Errorf("%#x and %#x were changed", v, w)
	}
}
