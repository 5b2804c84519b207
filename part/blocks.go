package part

import (
	"slices"

	"provost/api"
)

// Of is the pattern of labels.
func Of(labels []int) ([]int, api.Errno) {
	if !fits(len(labels)) {
		return nil, api.ErrTooBig
	}
	blocks := map[int]int{}
	a := make([]int, len(labels))
	for i, label := range labels {
		b, known := blocks[label]
		if !known {
			b = len(blocks)
			blocks[label] = b
		}
		a[i] = b
	}
	return a, api.OK
}

// Size is how many blocks a pattern has.
func Size(a []int) int {
	if !Legal(a) {
		return 0
	}
	return blocksIn(a)
}

// Blocks are a pattern's blocks.
func Blocks(a []int) [][]int {
	if !Legal(a) {
		return nil
	}
	blocks := make([][]int, blocksIn(a))
	for i, b := range a {
		blocks[b] = append(blocks[b], i)
	}
	return blocks
}

// Finer: is each block of a within one of b?
func Finer(a, b []int) bool {
	meet, err := Meet(a, b)
	return err == api.OK && slices.Equal(meet, a)
}

// Meet is the coarsest pattern that is finer than both.
func Meet(a, b []int) ([]int, api.Errno) {
	if !alike(a, b) {
		return nil, api.ErrForm
	}
	pairs := make([]int, len(a))
	for i := range pairs {
		pairs[i] = a[i]*api.MaxBell + b[i]
	}
	return Of(pairs)
}

// Join is the finest pattern that both are finer than.
func Join(a, b []int) ([]int, api.Errno) {
	if !alike(a, b) {
		return nil, api.ErrForm
	}
	labels := slices.Clone(a)
	for i := range b {
		relabel(labels, labels[i], labels[slices.Index(b, b[i])])
	}
	return Of(labels)
}

// Merge joins the blocks of two places.
func Merge(a []int, i, j int) ([]int, api.Errno) {
	if !Legal(a) {
		return nil, api.ErrForm
	}
	if !isPlace(a, i) || !isPlace(a, j) {
		return nil, api.ErrArg
	}
	labels := slices.Clone(a)
	relabel(labels, a[i], a[j])
	return Of(labels)
}

// alike: are they patterns of one length?
func alike(a, b []int) bool {
	return len(a) == len(b) && Legal(a) && Legal(b)
}

func isPlace(a []int, i int) bool {
	return i >= 0 && i < len(a)
}

// relabel gives all places of one label the other one.
func relabel(labels []int, from, to int) {
	for i, label := range labels {
		if label == from {
			labels[i] = to
		}
	}
}
