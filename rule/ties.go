package rule

import (
	"provost/api"
	"provost/bits"
	"provost/part"
)

// set is a set of steps.
type set = bits.Set[uint64]

// Ties is the pattern of the steps that Same rules bind together.
func Ties(n int, rules []api.Rule) ([]int, api.Errno) {
	if !allFit(n, rules) {
		return nil, api.ErrArg
	}
	ties, err := part.Last(n)
	for _, r := range rules {
		if r.Kind == api.Same {
			ties = bind(ties, r.Steps)
		}
	}
	return ties, err
}

// Foes are, for each step, the steps that Apart rules keep apart from it.
func Foes(n int, rules []api.Rule) ([]uint64, api.Errno) {
	ties, err := Ties(n, rules)
	if err != api.OK {
		return nil, err
	}
	blocks := blockSets(ties)
	against := make([]set, len(blocks))
	for _, r := range rules {
		if r.Kind == api.Apart {
			setAgainst(against, blocks, blocksOf(r.Steps, ties))
		}
	}
	foes := make([]uint64, n)
	for step, b := range ties {
		foes[step] = against[b].Word()
	}
	return foes, api.OK
}

// Clash: is some step kept apart from itself?
func Clash(n int, rules []api.Rule) bool {
	// Beside an error there are no words to go through.
	foes, _ := Foes(n, rules)
	for step, word := range foes {
		if (set{}).Of(word).Has(step) {
			return true
		}
	}
	return false
}

// allFit: may there be n steps, and is each one a rule between them?
func allFit(n int, rules []api.Rule) bool {
	if !stepsFit(n) {
		return false
	}
	for _, r := range rules {
		if Check(n, r) != api.OK {
			return false
		}
	}
	return true
}

// bind puts the steps into one block.
func bind(ties, steps []int) []int {
	for _, step := range steps {
		ties, _ = part.Merge(ties, steps[0], step)
	}
	return ties
}

// blockSets are the steps of each block.
func blockSets(ties []int) []set {
	blocks := make([]set, part.Size(ties))
	for step, b := range ties {
		blocks[b], _ = blocks[b].With(step)
	}
	return blocks
}

// blocksOf are the blocks of the steps, one for each step.
func blocksOf(steps, ties []int) []int {
	blocks := make([]int, len(steps))
	for i, step := range steps {
		blocks[i] = ties[step]
	}
	return blocks
}

// setAgainst sets each two against one another of the blocks in which the steps
// of an Apart rule are; a block in which two of them are stands against itself.
func setAgainst(against, blocks []set, of []int) {
	for i, a := range of {
		for j, b := range of {
			if i != j {
				against[a] = against[a].Or(blocks[b])
			}
		}
	}
}
