package tally

import (
	"iter"
	"slices"

	"provost/api"
	"provost/match"
	"provost/part"
	"provost/rule"
)

// look is a problem that Check takes, made ready for searches through patterns:
// its steps stand in the order in which they are gone through. It shares no memory
// with the problem, which may change while the look is still needed.
type look struct {
	may []uint64
	// rules has for each step those that it stands in: by its block no others can
	// come to be broken.
	rules [][]api.Rule
}

func newLook(p api.Problem, order []int) *look {
	l := &look{rules: make([][]api.Rule, len(order))}
	for _, step := range order {
		l.may = append(l.may, may(p, step))
	}
	for _, r := range p.Rules {
		r.Steps = placesOf(r.Steps, order)
		for _, place := range r.Steps {
			l.rules[place] = append(l.rules[place], r)
		}
	}
	return l
}

// patterns tells the patterns, in their order, by which all rules are kept and
// whose blocks can have users of their own, but for those with a beginning that is
// not worth it; and with each who may do its blocks. What is told is the body's
// for its turn alone.
func (l *look) patterns(worth func(beginning []int) bool) iter.Seq2[[]int, []uint64] {
	return func(yield func([]int, []uint64) bool) {
		if len(l.may) == 0 {
			yield(nil, nil)
			return
		}
		part.Search(len(l.may), 1, func(beginning []int) bool {
			words := l.words(beginning)
			if !worth(beginning) || !l.early(beginning) || match.Size(words) < len(words) {
				return false
			}
			// The search ends with the first pattern that is kept: the one at which
			// the body has ended the range.
			return len(beginning) < len(l.may) || !yield(beginning, words)
		})
	}
}

// always: every beginning is worth it.
func always([]int) bool { return true }

// early: can all rules still be kept behind a beginning, if they can be behind the
// one without its last step?
func (l *look) early(beginning []int) bool {
	last := len(beginning) - 1
	return !slices.ContainsFunc(l.rules[last], func(r api.Rule) bool {
		return !rule.Early(r, len(l.may), beginning)
	})
}

// words has for each block of a beginning who may do all its steps.
func (l *look) words(beginning []int) []uint64 {
	words := make([]uint64, 0, api.MaxSteps)
	for step, block := range beginning {
		if block == len(words) {
			words = append(words, l.may[step])
		}
		words[block] &= l.may[step]
	}
	return words
}

// plans tells the plans, in their order, of steps that stand in theirs.
func (l *look) plans(yield func([]int) bool) {
	for pattern, words := range l.patterns(always) {
		for users := range matchings(words) {
			plan := make([]int, len(pattern))
			for step, block := range pattern {
				plan[step] = users[block]
			}
			if !yield(plan) {
				return
			}
		}
	}
}

// live are the users that do the first step in some plan. It uses the look up.
func (l *look) live() uint64 {
	var live uint64
	for _, words := range l.patterns(always) {
		// The first step is in block 0. Behind this only those patterns are looked
		// for by which it has a user more.
		live |= match.Free(words, 0)
		l.may[0] &^= live
	}
	return live
}
