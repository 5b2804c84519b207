package part

import (
	"slices"

	"provost/api"
)

// Search is the first patterns of n all of whose beginnings are kept.
func Search(n, most int, keep func(beginning []int) bool) [][]int {
	if n < 0 || n > api.MaxSteps || most < 1 {
		return nil
	}
	most = min(most, api.MaxCount)
	row := make([]int, n)
	var told [][]int
	// kept hands out no spare room: what is asked sees the beginning alone.
	kept := func(places int) bool {
		return keep == nil || keep(row[:places:places])
	}
	var fill func(at, blocks int)
	fill = func(at, blocks int) {
		if at == n {
			told = append(told, slices.Clone(row))
			return
		}
		for b := 0; b <= blocks && len(told) < most; b++ {
			row[at] = b
			if kept(at + 1) {
				fill(at+1, max(blocks, b+1))
			}
		}
	}
	fill(0, 0)
	return told
}
