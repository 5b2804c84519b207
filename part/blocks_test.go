package part_test

import (
	"math"
	"slices"
	"testing"

	"provost/api"
	"provost/part"
)

// together is the pattern of n places in which two places are in one block just
// if a chain of linked places leads from one to the other.
func together(n int, linked func(i, j int) bool) []int {
	reach := make([][]bool, n)
	for i := range reach {
		reach[i] = make([]bool, n)
		for j := range reach[i] {
			reach[i][j] = i == j || linked(i, j)
		}
	}
	for k := range n {
		for i := range n {
			for j := range n {
				reach[i][j] = reach[i][j] || reach[i][k] && reach[k][j]
			}
		}
	}
	a, blocks := make([]int, n), 0
	for i := range a {
		if first := slices.Index(reach[i], true); first < i {
			a[i] = a[first]
		} else {
			a[i] = blocks
			blocks++
		}
	}
	return a
}

// P2.5

func TestOfPartsByLabels(t *testing.T) {
	for n := range 5 {
		for _, labels := range rows(n, -2, 2) {
			checkOf(t, labels)
		}
	}
	checkOf(t, []int{math.MaxInt, math.MinInt, 0, math.MinInt, -1, math.MaxInt, 1 << 40})
	for n := range 26 {
		long := make([]int, n)
		for i := range long {
			long[i] = (n - i) * (n - i) % 11
		}
		checkOf(t, long)
	}
}

func checkOf(t *testing.T, labels []int) {
	t.Helper()
	want := together(len(labels), func(i, j int) bool { return labels[i] == labels[j] })
	if got, err := part.Of(labels); !slices.Equal(got, want) || err != api.OK {
		t.Errorf("Of(%v): %v, %v, not %v", labels, got, err, want)
	}
}

func TestOfTooManyLabels(t *testing.T) {
	for _, n := range []int{26, 27, 1000} {
		got, err := part.Of(make([]int, n))
		wantErr(t, "Of many labels", got, err, api.ErrTooBig)
	}
}

func TestOfAPatternIsItself(t *testing.T) {
	for n := range 8 {
		for _, a := range patterns(n) {
			got, err := part.Of(a)
			wantErr(t, "Of", got, err, api.OK)
			wantRow(t, "Of", got, text(a))
		}
	}
}

// P2.6

func TestSizeAndBlocksOfAllPatterns(t *testing.T) {
	for n := range 8 {
		for _, a := range patterns(n) {
			size := 0
			if n > 0 {
				size = slices.Max(a) + 1
			}
			blocks := part.Blocks(a)
			if part.Size(a) != size || len(blocks) != size {
				t.Errorf("Size(%v), Blocks: %d, %v", a, part.Size(a), blocks)
			}
			for b, places := range blocks {
				var want []int
				for i, x := range a {
					if x == b {
						want = append(want, i)
					}
				}
				if !slices.Equal(places, want) {
					t.Errorf("Blocks(%v): %v", a, blocks)
				}
			}
		}
	}
}

func TestSizeAndBlocksOfNoPatterns(t *testing.T) {
	for _, a := range broken() {
		if part.Size(a) != 0 || len(part.Blocks(a)) != 0 {
			t.Errorf("Size(%v), Blocks: %d, %v", a, part.Size(a), part.Blocks(a))
		}
	}
}

func TestSizeAndBlocksOfTwentyFivePlaces(t *testing.T) {
	first, _ := part.First(25)
	last, _ := part.Last(25)
	if part.Size(first) != 1 || part.Size(last) != 25 {
		t.Error("Size:", part.Size(first), part.Size(last))
	}
	if one, own := part.Blocks(first), part.Blocks(last); len(one) != 1 || !slices.Equal(one[0], last) || len(own) != 25 || !slices.Equal(own[24], []int{24}) {
		t.Error("Blocks:", one, own)
	}
}

// P2.7, P2.10

func TestFinerMeetAndJoinOfAllPairs(t *testing.T) {
	for n := range 5 {
		for _, a := range patterns(n) {
			for _, b := range patterns(n) {
				checkPair(t, a, b)
			}
		}
	}
}

func checkPair(t *testing.T, a, b []int) {
	t.Helper()
	inA := func(i, j int) bool { return a[i] == a[j] }
	inB := func(i, j int) bool { return b[i] == b[j] }
	meet, err := part.Meet(a, b)
	wantErr(t, "Meet", meet, err, api.OK)
	wantRow(t, "Meet of "+text(a)+" and "+text(b), meet, text(together(len(a), func(i, j int) bool { return inA(i, j) && inB(i, j) })))
	join, err := part.Join(a, b)
	wantErr(t, "Join", join, err, api.OK)
	wantRow(t, "Join of "+text(a)+" and "+text(b), join, text(together(len(a), func(i, j int) bool { return inA(i, j) || inB(i, j) })))
	finer := true
	for i := range a {
		for j := range a {
			finer = finer && (!inA(i, j) || inB(i, j))
		}
	}
	if part.Finer(a, b) != finer {
		t.Errorf("Finer(%v, %v): %v", a, b, !finer)
	}
}

func TestMeetAndJoinAreTheBounds(t *testing.T) {
	for n := range 5 {
		all := patterns(n)
		for _, a := range all {
			for _, b := range all {
				meet, _ := part.Meet(a, b)
				join, _ := part.Join(a, b)
				for _, c := range all {
					if (part.Finer(c, a) && part.Finer(c, b)) != part.Finer(c, meet) {
						t.Errorf("Meet(%v, %v) is not the greatest bound: %v", a, b, c)
					}
					if (part.Finer(a, c) && part.Finer(b, c)) != part.Finer(join, c) {
						t.Errorf("Join(%v, %v) is not the least bound: %v", a, b, c)
					}
				}
			}
		}
	}
}

func TestFinerMeetAndJoinOfLongPatterns(t *testing.T) {
	for n := 5; n <= 25; n++ {
		bell, _ := part.Bell(n)
		var some [][]int
		for _, rank := range []uint64{0, 1, bell / 7, bell / 5, bell / 3, bell / 2, bell - 2, bell - 1} {
			a, _ := part.At(n, rank)
			some = append(some, a)
		}
		for _, a := range some {
			for _, b := range some {
				checkPair(t, a, b)
			}
		}
	}
	// A chain that goes through every block of both, from the last place back.
	a, b := make([]int, 25), make([]int, 25)
	for i := range a {
		a[i], b[i] = i/2, (i+1)/2
	}
	checkPair(t, a, b)
	checkPair(t, b, a)
}

func TestFinerMeetAndJoinOfUnlikeOrWrongRows(t *testing.T) {
	pairs := [][2][]int{{nil, {0}}, {{0}, nil}, {{0, 0}, {0}}, {{0, 1}, {0, 1, 2}}}
	for _, bad := range broken() {
		good := make([]int, len(bad))
		pairs = append(pairs, [2][]int{bad, good}, [2][]int{good, bad}, [2][]int{bad, bad}, [2][]int{bad, nil}, [2][]int{nil, bad})
	}
	for _, p := range pairs {
		if part.Finer(p[0], p[1]) {
			t.Errorf("Finer(%v, %v)", p[0], p[1])
		}
		meet, err := part.Meet(p[0], p[1])
		wantErr(t, "Meet of wrong rows", meet, err, api.ErrForm)
		join, err := part.Join(p[0], p[1])
		wantErr(t, "Join of wrong rows", join, err, api.ErrForm)
	}
}

func TestMergeOfAllPatterns(t *testing.T) {
	for n := range 6 {
		for _, a := range patterns(n) {
			for i := -2; i < n+2; i++ {
				for j := -2; j < n+2; j++ {
					checkMerge(t, a, i, j)
				}
			}
		}
	}
	last, _ := part.Last(25)
	for _, x := range [][2]int{{0, 24}, {24, 0}, {24, 24}, {11, 12}, {0, 25}, {25, 0}, {math.MinInt, 0}, {0, math.MinInt}, {math.MaxInt, 0}, {0, math.MaxInt}} {
		checkMerge(t, last, x[0], x[1])
	}
}

func checkMerge(t *testing.T, a []int, i, j int) {
	t.Helper()
	got, err := part.Merge(a, i, j)
	if min(i, j) < 0 || max(i, j) >= len(a) {
		wantErr(t, "Merge of no place", got, err, api.ErrArg)
		return
	}
	merged := func(x int) bool { return a[x] == a[i] || a[x] == a[j] }
	want := together(len(a), func(x, y int) bool { return a[x] == a[y] || merged(x) && merged(y) })
	wantErr(t, "Merge", got, err, api.OK)
	wantRow(t, "Merge of "+text(a), got, text(want))
}

func TestMergeOfNoPatterns(t *testing.T) {
	for _, a := range broken() {
		for _, i := range []int{0, -1, len(a)} {
			got, err := part.Merge(a, i, 0)
			wantErr(t, "Merge of no pattern", got, err, api.ErrForm)
		}
	}
}

func TestRunsOfBlocks(t *testing.T) {
	of, err := part.Of([]int{7, -3, 7, 9})
	wantErr(t, "Of", of, err, api.OK)
	wantRow(t, "Of", of, "0 1 0 2")
	blocks := part.Blocks([]int{0, 1, 0, 2})
	if len(blocks) != 3 || text(blocks[0]) != "0 2" || text(blocks[1]) != "1" || text(blocks[2]) != "3" {
		t.Error("Blocks:", blocks)
	}
	meet, _ := part.Meet([]int{0, 0, 1, 1}, []int{0, 1, 1, 2})
	wantRow(t, "Meet", meet, "0 1 2 3")
	join, _ := part.Join([]int{0, 0, 1, 1}, []int{0, 1, 1, 2})
	wantRow(t, "Join", join, "0 0 0 0")
	merge, err := part.Merge([]int{0, 1, 2}, 2, 0)
	wantErr(t, "Merge", merge, err, api.OK)
	wantRow(t, "Merge", merge, "0 1 0")
	merge, err = part.Merge([]int{0, 1}, 0, 2)
	wantErr(t, "Merge", merge, err, api.ErrArg)
}

func TestExamples(t *testing.T) {
	for _, b := range patterns(3) {
		if !part.Finer([]int{0, 1, 2}, b) {
			t.Error("Finer of the last pattern and", b)
		}
	}
	for _, end := range []func(int) ([]int, api.Errno){part.First, part.Last} {
		if a, err := end(0); len(a) != 0 || err != api.OK {
			t.Error("First and Last of 0:", a, err)
		}
	}
}
